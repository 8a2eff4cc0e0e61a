package hands_test

// The properties, and what is said of all plans, bounds and truths, against calculations that follow the document's words and try every one of them.

import (
	"math/rand/v2"
	"slices"
	"testing"

	"rostellum/api"
	"rostellum/hands"
)

// hoursOf are three hours at most, from a span of them.
func hoursOf(r *rand.Rand) (from, to int) {
	from = r.IntN(3)
	return from, from + r.IntN(3)
}

// some returns a season, its numbers of flowers, rates and days up to a limit.
func some(r *rand.Rand, vines, helpers, mornings, most int) api.HandsSeason {
	var s api.HandsSeason
	for range vines {
		from, to := hoursOf(r)
		s.Vines = append(s.Vines, api.HandsVine{From: from, To: to, Bears: r.IntN(2*most + 1)})
	}
	for range helpers {
		from, to := hoursOf(r)
		s.Hands = append(s.Hands, api.HandsHand{Vines: r.IntN(1 << vines), From: from, To: to, Rate: r.IntN(most + 1), Day: r.IntN(2*most + 1)})
	}
	for range mornings {
		var l []api.Span
		for range vines {
			low := r.IntN(most + 1)
			l = append(l, span(low, low+r.IntN(2)))
		}
		s.Flowers = append(s.Flowers, l)
	}
	return s
}

// oneTruth returns a truth of a season: part 0 is the least one, part 2 the greatest one, and part 1 one in between.
func oneTruth(r *rand.Rand, s api.HandsSeason, part int) [][]int {
	var truth [][]int
	for _, l := range s.Flowers {
		var flowers []int
		for _, f := range l {
			flowers = append(flowers, []int{f.Low, f.Low + r.IntN(f.High-f.Low+1), f.High}[part])
		}
		truth = append(truth, flowers)
	}
	return truth
}

// can follows, by the document's words, whether a hand can pollinate a vine in an hour.
func can(s api.HandsSeason, hand, vine, hour int) bool {
	h, v := s.Hands[hand], s.Vines[vine]
	return h.Vines&(1<<vine) != 0 && hour >= h.From && hour <= h.To && hour >= v.From && hour <= v.To
}

// isPlan follows what a plan is, and whether it fits a truth, by the document's words.
func isPlan(s api.HandsSeason, truth [][]int, plan []api.HandsJob) (plans, fits bool) {
	plans, fits = len(plan) <= 2048, true
	hour, day := map[[3]int]int{}, map[[2]int]int{}
	open, all := map[[2]int]int{}, map[int]int{}
	for i, j := range plan {
		if j.Many < 1 || !can(s, j.Hand, j.Vine, j.Hour) {
			plans = false
		}
		if i > 0 {
			p := plan[i-1]
			if slices.Compare([]int{p.Morning, p.Hour, p.Hand, p.Vine}, []int{j.Morning, j.Hour, j.Hand, j.Vine}) >= 0 {
				plans = false
			}
		}
		hour[[3]int{j.Morning, j.Hand, j.Hour}] += j.Many
		day[[2]int{j.Morning, j.Hand}] += j.Many
		open[[2]int{j.Morning, j.Vine}] += j.Many
		all[j.Vine] += j.Many
	}
	for k, n := range hour {
		plans = plans && n <= s.Hands[k[1]].Rate
	}
	for k, n := range day {
		plans = plans && n <= s.Hands[k[1]].Day
	}
	for k, n := range open {
		fits = fits && n <= truth[k[0]][k[1]]
	}
	for v, n := range all {
		fits = fits && n <= s.Vines[v].Bears
	}
	return plans, fits
}

// number follows the number of a bound, by the document's words.
func number(s api.HandsSeason, truth [][]int, b api.HandsBound) int {
	n := 0
	for v := range s.Vines {
		if b.Vines&(1<<v) != 0 {
			n += s.Vines[v].Bears
		}
	}
	for m, in := range b.Mornings {
		for v := range s.Vines {
			if in&(1<<v) != 0 {
				n += truth[m][v]
			}
		}
		for h := range s.Hands {
			hours := 0
			for hour := range 12 {
				some := false
				for v := range s.Vines {
					some = some || (b.Vines|in)&(1<<v) == 0 && can(s, h, v, hour)
				}
				if some {
					hours++
				}
			}
			n += min(s.Hands[h].Day, s.Hands[h].Rate*hours)
		}
	}
	return n
}

// bounds calls see with every bound of a season.
func bounds(s api.HandsSeason, see func(b api.HandsBound)) {
	for vines := range 1 << len(s.Vines) {
		b := api.HandsBound{Vines: vines}
		var morning func()
		morning = func() {
			if len(b.Mornings) == len(s.Flowers) {
				see(b)
				return
			}
			for in := range 1 << len(s.Vines) {
				if in&vines == 0 {
					b.Mornings = append(b.Mornings, in)
					morning()
					b.Mornings = b.Mornings[:len(b.Mornings)-1]
				}
			}
		}
		morning()
	}
}

// leastNumber is that of all bounds, none of which is passed over.
func leastNumber(s api.HandsSeason, truth [][]int) int {
	least := highest
	bounds(s, func(b api.HandsBound) { least = min(least, number(s, truth, b)) })
	return least
}

// bestWorth is that of all plans which fit a truth, each of which is tried.
func bestWorth(s api.HandsSeason, truth [][]int) int {
	var jobs []api.HandsJob
	for m := range s.Flowers {
		for hour := range 12 {
			for h := range s.Hands {
				for v := range s.Vines {
					if can(s, h, v, hour) {
						jobs = append(jobs, job(m, hour, h, v, 0))
					}
				}
			}
		}
	}
	best := 0
	var plan []api.HandsJob
	var try func(i int)
	try = func(i int) {
		best = max(best, worth(plan))
		if i == len(jobs) {
			return
		}
		try(i + 1)
		for many := 1; ; many++ {
			j := jobs[i]
			j.Many = many
			plan = append(plan, j)
			plans, fits := isPlan(s, truth, plan)
			if plans && fits {
				try(i + 1)
			}
			plan = plan[:len(plan)-1]
			if !plans || !fits {
				return
			}
		}
	}
	try(0)
	return best
}

// most is the worth of the plan; what is wrong with the plan, or with the bound, is an error.
func most(t *testing.T, s api.HandsSeason, truth [][]int) int {
	t.Helper()
	plan, e := hands.Plan(s, truth)
	if plans, fits := isPlan(s, truth, plan); !plans || !fits || e != api.OK {
		t.Fatalf("Plan(%v, %v): %v, %d", s, truth, plan, e)
	}
	ok, e := hands.Fits(s, truth, plan)
	if !ok || e != api.OK {
		t.Fatalf("Fits(%v, %v, %v): %v, %d", s, truth, plan, ok, e)
	}
	b, e := hands.Bound(s, truth)
	if e != api.OK || number(s, truth, b) != worth(plan) {
		t.Fatalf("Bound(%v, %v): %v, %d, of a plan that is worth %d", s, truth, b, e, worth(plan))
	}
	n, e := hands.Number(s, truth, b)
	if n != worth(plan) || e != api.OK {
		t.Fatalf("Number(%v, %v, %v): %d, %d", s, truth, b, n, e)
	}
	return n
}

// P2.3, P2.7: no plan is worth more than the one that is returned.
func TestNoPlanIsWorthMore(t *testing.T) {
	r := rand.New(rand.NewPCG(2, 3))
	for range 400 {
		s := some(r, 1+r.IntN(2), r.IntN(3), 1, 2)
		truth := oneTruth(r, s, 1)
		if n, best := most(t, s, truth), bestWorth(s, truth); n != best {
			t.Errorf("%v, %v: a plan worth %d instead of %d", s, truth, n, best)
		}
	}
	for range 100 {
		s := some(r, 1+r.IntN(2), 1, 2, 2)
		truth := oneTruth(r, s, 1)
		if n, best := most(t, s, truth), bestWorth(s, truth); n != best {
			t.Errorf("%v, %v: a plan worth %d instead of %d", s, truth, n, best)
		}
	}
}

// P2.3, P2.7: no bound has a lesser number than the one that is returned, and Number is that of each of them.
func TestBounds(t *testing.T) {
	r := rand.New(rand.NewPCG(2, 7))
	for range 300 {
		s := some(r, 1+r.IntN(3), r.IntN(5), 1+r.IntN(3), 1+r.IntN(9))
		truth := oneTruth(r, s, 1)
		if n, least := most(t, s, truth), leastNumber(s, truth); n != least {
			t.Errorf("%v, %v: %d instead of %d", s, truth, n, least)
		}
		bounds(s, func(b api.HandsBound) {
			if n, e := hands.Number(s, truth, b); n != number(s, truth, b) || e != api.OK {
				t.Fatalf("Number(%v, %v, %v): %d, %d", s, truth, b, n, e)
			}
		})
	}
}

// P2.4, P2.8: each end of Most is that of a truth, and no truth is out of it.
func TestMostOfAllTruths(t *testing.T) {
	r := rand.New(rand.NewPCG(2, 8))
	for range 300 {
		s := some(r, 1+r.IntN(3), r.IntN(4), 1+r.IntN(2), 4)
		low, high := highest, 0
		truth := oneTruth(r, s, 0)
		var next func(i int)
		next = func(i int) {
			if i == len(s.Vines)*len(s.Flowers) {
				n := most(t, s, truth)
				low, high = min(low, n), max(high, n)
				return
			}
			m, v := i/len(s.Vines), i%len(s.Vines)
			for n := s.Flowers[m][v].Low; n <= s.Flowers[m][v].High; n++ {
				truth[m][v] = n
				next(i + 1)
			}
		}
		next(0)
		span, e := hands.Most(s)
		want(t, "Most", span, api.Span{Low: low, High: high}, e, api.OK)
	}
}

// P2.8: with more flowers, more hands, or vines that bear more the most is not less.
func TestMore(t *testing.T) {
	r := rand.New(rand.NewPCG(2, 9))
	for range 500 {
		s := some(r, 1+r.IntN(6), r.IntN(4), 1+r.IntN(6), 20)
		few := most(t, s, oneTruth(r, s, 0))
		if n := most(t, s, oneTruth(r, s, 2)); n < few {
			t.Errorf("%v: with more flowers %d instead of %d", s, n, few)
		}
		more := s
		more.Hands = append(slices.Clone(s.Hands), api.HandsHand{Vines: 1, From: 0, To: 11, Rate: 1, Day: 5})
		if n := most(t, more, oneTruth(r, s, 0)); n < few {
			t.Errorf("%v: with more hands %d instead of %d", s, n, few)
		}
		more = s
		more.Vines = slices.Clone(s.Vines)
		more.Vines[0].Bears += 3
		if n := most(t, more, oneTruth(r, s, 0)); n < few {
			t.Errorf("%v: with a vine that bears more %d instead of %d", s, n, few)
		}
	}
}

// played follows how a plan is carried out, by the document's words.
func played(s api.HandsSeason, truth [][]int, plan []api.HandsJob) (pods []int, lost int) {
	pods = make([]int, len(s.Vines))
	done := map[[2]int]int{}
	for _, j := range plan {
		for range j.Many {
			at := [2]int{j.Morning, j.Vine}
			if done[at] < truth[j.Morning][j.Vine] && pods[j.Vine] < s.Vines[j.Vine].Bears {
				done[at]++
				pods[j.Vine]++
			}
		}
	}
	for m, l := range truth {
		for v, n := range l {
			lost += n - done[[2]int{m, v}]
		}
	}
	return pods, lost
}

// P2.5, P2.9: a plan that fits the fewest flowers is carried out wholly, any other one as far as it can be.
func TestPlayed(t *testing.T) {
	r := rand.New(rand.NewPCG(2, 5))
	short := 0
	for range 500 {
		s := some(r, 1+r.IntN(4), 1+r.IntN(4), 1+r.IntN(4), 12)
		for part := range 3 {
			truth := oneTruth(r, s, 1)
			plan, e := hands.Plan(s, oneTruth(r, s, part))
			if e != api.OK {
				t.Fatalf("Plan(%v): %d", s, e)
			}
			pods, lost, e := hands.Play(s, truth, plan)
			wantedPods, wantedLost := played(s, truth, plan)
			want(t, "pods", pods, wantedPods, e, api.OK)
			want(t, "lost", lost, wantedLost, e, api.OK)
			all := 0
			for v, n := range pods {
				all += n
				if n > s.Vines[v].Bears {
					t.Errorf("%v, %v: the vine %d has more pods than it bears", s, plan, v)
				}
			}
			ok, e := hands.Fits(s, truth, plan)
			_, fits := isPlan(s, truth, plan)
			want(t, "Fits", ok, fits, e, api.OK)
			if part == 0 && all != worth(plan) {
				t.Errorf("%v, %v, %v: %d pods only", s, truth, plan, all)
			}
			if all < worth(plan) {
				short++
			}
		}
	}
	if short == 0 {
		t.Error("each plan was carried out wholly")
	}
}

// P1, P2.3: the largest seasons are worked out too, in which flowers, hands and vines all stand in the way.
func TestTheLargestSeasons(t *testing.T) {
	r := rand.New(rand.NewPCG(6, 4))
	for range 30 {
		s := full()
		for v := range s.Vines {
			s.Vines[v].Bears = 200 + r.IntN(801)
			for m := range s.Flowers {
				low := r.IntN(300)
				s.Flowers[m][v] = span(low, low+r.IntN(100))
			}
		}
		for h := range s.Hands {
			s.Hands[h] = api.HandsHand{Vines: 1 + r.IntN(63), From: r.IntN(3), To: 9 + r.IntN(3), Rate: 50 + r.IntN(51), Day: 300 + r.IntN(701)}
		}
		most(t, s, oneTruth(r, s, 1))
	}
}
