package pod_test

// The properties, and what is said of all truths, rounds and markets, against calculations that follow the document's words and try every one of them.

import (
	"math/rand/v2"
	"slices"
	"testing"

	"rostellum/api"
	"rostellum/pod"
)

// part returns a span that begins from a number on, and is at most so long.
func part(r *rand.Rand, from, starts, long int) api.Span {
	low := from + r.IntN(starts)
	return span(low, low+r.IntN(long))
}

// some returns pods whose windows are near each other.
func some(r *rand.Rand, many int) []api.Pod {
	var l []api.Pod
	for i := range many {
		l = append(l, api.Pod{
			Tag:  string(rune('a' + i)),
			Born: r.IntN(6),
			Ripe: part(r, 1, 8, 4),
			Hold: part(r, 1, 5, 3),
			Gain: part(r, 0, 90, 11),
		})
	}
	return l
}

// oneTruth returns a truth of pods.
func oneTruth(r *rand.Rand, l []api.Pod) api.PodTruth {
	var t api.PodTruth
	in := func(s api.Span) int { return s.Low + r.IntN(s.High-s.Low+1) }
	for _, p := range l {
		t.Ripe, t.Hold, t.Gain = append(t.Ripe, in(p.Ripe)), append(t.Hold, in(p.Hold)), append(t.Gain, in(p.Gain))
	}
	return t
}

// truths calls see with every truth of pods.
func truths(l []api.Pod, see func(t api.PodTruth)) {
	var t api.PodTruth
	var next func(i int)
	next = func(i int) {
		if i == len(l) {
			see(t)
			return
		}
		for ripe := l[i].Ripe.Low; ripe <= l[i].Ripe.High; ripe++ {
			for hold := l[i].Hold.Low; hold <= l[i].Hold.High; hold++ {
				for gain := l[i].Gain.Low; gain <= l[i].Gain.High; gain++ {
					t.Ripe, t.Hold, t.Gain = append(t.Ripe[:i], ripe), append(t.Hold[:i], hold), append(t.Gain[:i], gain)
					next(i + 1)
				}
			}
		}
	}
	next(0)
}

// yield follows the yield of a plan, by the document's words.
func yield(l []api.Pod, plan []int, t api.PodTruth) api.Yield {
	var y api.Yield
	for i, p := range l {
		day := plan[i]
		isRipe := day >= p.Born+t.Ripe[i]
		isSplit := day >= p.Born+t.Ripe[i]+t.Hold[i]
		age := day - p.Born
		if age > t.Ripe[i] {
			age = t.Ripe[i]
		}
		weight := 0
		for 100*(weight+1) <= t.Gain[i]*age {
			weight++
		}
		switch {
		case day == -1:
			y.Left++
		case isSplit:
			y.Split++
		case isRipe:
			y.Ripe += weight
		default:
			y.Green += weight
		}
	}
	return y
}

// widened is the least span with another number.
func widened(s api.Span, n int, first bool) api.Span {
	if first {
		return span(n, n)
	}
	return span(min(s.Low, n), max(s.High, n))
}

// spans follows between what the parts of a yield lie, over all truths.
func spans(l []api.Pod, plan []int) api.PodSpans {
	var s api.PodSpans
	first := true
	truths(l, func(t api.PodTruth) {
		y := yield(l, plan, t)
		s.Ripe, s.Green, s.Split = widened(s.Ripe, y.Ripe, first), widened(s.Green, y.Green, first), widened(s.Split, y.Split, first)
		first = false
	})
	return s
}

// isSure reports whether a pod is ripe and not split on a day, whatever the truth is.
func isSure(p api.Pod, day int) bool {
	sure := true
	p.Gain = span(0, 0)
	truths([]api.Pod{p}, func(t api.PodTruth) {
		sure = sure && day >= p.Born+t.Ripe[0] && day < p.Born+t.Ripe[0]+t.Hold[0]
	})
	return sure
}

// sureDays returns the days of a market on which a pod is surely ripe and not split.
func sureDays(p api.Pod, market api.Span) []int {
	var days []int
	for day := market.Low; day <= market.High; day++ {
		if isSure(p, day) {
			days = append(days, day)
		}
	}
	return days
}

// P3.2, P3.8: the window is all days on which the pod is surely ripe and not split.
func TestWindowOfAllTruths(t *testing.T) {
	r := rand.New(rand.NewPCG(3, 8))
	for range 500 {
		p := some(r, 1)[0]
		days := sureDays(p, span(0, 40))
		wanted, code := api.Span{}, api.ErrNone
		if len(days) > 0 {
			wanted, code = span(days[0], days[len(days)-1]), api.OK
		}
		w, e := pod.Window(p)
		want(t, "Window", w, wanted, e, code)
		for day := p.Born; day < 40; day++ {
			isIn := e == api.OK && w.Low <= day && day <= w.High
			if isIn != isSure(p, day) {
				t.Errorf("%v: %v, but the day %d", p, w, day)
			}
		}
	}
}

// P3.3
func TestHarvestOfAnyTruth(t *testing.T) {
	r := rand.New(rand.NewPCG(3, 3))
	for range 3000 {
		l := some(r, r.IntN(8))
		plan := somePlan(r, l)
		truth := oneTruth(r, l)
		y, e := pod.Harvest(l, plan, truth)
		want(t, "Harvest", y, yield(l, plan, truth), e, api.OK)
	}
}

// somePlan returns a plan for pods, all parts of a yield being likely.
func somePlan(r *rand.Rand, l []api.Pod) []int {
	var plan []int
	for _, p := range l {
		day := p.Born + r.IntN(p.Ripe.High+p.Hold.High+3)
		if r.IntN(6) == 0 {
			day = -1
		}
		plan = append(plan, day)
	}
	return plan
}

// P3.3, P3.9: the parts of each yield lie within Weigh, and each end is so with some truth.
func TestWeighOfAllTruths(t *testing.T) {
	r := rand.New(rand.NewPCG(3, 9))
	for range 300 {
		l := some(r, r.IntN(3))
		for i := range l {
			l[i].Gain.High = min(l[i].Gain.High, l[i].Gain.Low+3)
		}
		plan := somePlan(r, l)
		s, e := pod.Weigh(l, plan)
		want(t, "Weigh", s, spans(l, plan), e, api.OK)
	}
	for range 150 {
		p := api.Pod{Tag: "p", Born: r.IntN(1001), Ripe: part(r, 1, 350, 51), Hold: part(r, 1, 80, 21), Gain: part(r, 0, 80, 21)}
		l, plan := []api.Pod{p}, []int{p.Born + p.Ripe.Low + r.IntN(p.Hold.High+p.Ripe.High-p.Ripe.Low)}
		s, e := pod.Weigh(l, plan)
		want(t, "Weigh of one", s, spans(l, plan), e, api.OK)
	}
}

// P3.3, P3.9: what is so of one pod says nothing of another one.
func TestWeighAddsUp(t *testing.T) {
	r := rand.New(rand.NewPCG(3, 90))
	for range 300 {
		l := some(r, 12)
		plan := somePlan(r, l)
		var sum api.PodSpans
		for i := range l {
			s := spans(l[i:i+1], plan[i:i+1])
			sum.Ripe = span(sum.Ripe.Low+s.Ripe.Low, sum.Ripe.High+s.Ripe.High)
			sum.Green = span(sum.Green.Low+s.Green.Low, sum.Green.High+s.Green.High)
			sum.Split = span(sum.Split.Low+s.Split.Low, sum.Split.High+s.Split.High)
		}
		s, e := pod.Weigh(l, plan)
		want(t, "Weigh", s, sum, e, api.OK)
	}
}

// bestRounds follows which rounds are the fewest, and of these the last, each set of days being tried.
func bestRounds(l []api.Pod, market api.Span) []int {
	var served [][]int
	for _, p := range l {
		if days := sureDays(p, market); len(days) > 0 {
			served = append(served, days)
		}
	}
	var best []int
	found := false
	for set := range 1 << (market.High - market.Low + 1) {
		var rounds []int
		for day := market.Low; day <= market.High; day++ {
			if set>>(day-market.Low)&1 == 1 {
				rounds = append(rounds, day)
			}
		}
		serves := !slices.ContainsFunc(served, func(days []int) bool {
			return !slices.ContainsFunc(days, func(day int) bool { return slices.Contains(rounds, day) })
		})
		better := len(rounds) < len(best) || len(rounds) == len(best) && slices.Compare(rounds, best) > 0
		if serves && (!found || better) {
			best, found = rounds, true
		}
	}
	return best
}

// areApart reports whether some pods are apart in a market.
func areApart(l []api.Pod, market api.Span, some []int) bool {
	seen := map[int]bool{}
	for _, i := range some {
		days := sureDays(l[i], market)
		if len(days) == 0 {
			return false
		}
		for _, day := range days {
			if seen[day] {
				return false
			}
			seen[day] = true
		}
	}
	return true
}

// mostApart follows how many pods are apart at most, each set of pods being tried.
func mostApart(l []api.Pod, market api.Span) int {
	most := 0
	for set := range 1 << len(l) {
		var some []int
		for i := range l {
			if set>>i&1 == 1 {
				some = append(some, i)
			}
		}
		if len(some) > most && areApart(l, market, some) {
			most = len(some)
		}
	}
	return most
}

// P3.4, P3.10: the rounds are the fewest, and the last of these; as many pods are apart.
func TestRoundsOfAllDays(t *testing.T) {
	r := rand.New(rand.NewPCG(3, 4))
	longest := 0
	for range 400 {
		l := some(r, r.IntN(8))
		market := part(r, 0, 12, 11)
		rounds, e := pod.Rounds(l, market)
		want(t, "Rounds", rounds, bestRounds(l, market), e, api.OK)
		apart, e := pod.Apart(l, market)
		if e != api.OK || !areApart(l, market, apart) || len(apart) != mostApart(l, market) || len(apart) != len(rounds) {
			t.Errorf("%v, %v: rounds %v, apart %v, %d", l, market, rounds, apart, e)
		}
		for i := range apart {
			if i > 0 && apart[i-1] >= apart[i] {
				t.Errorf("%v, %v: apart %v", l, market, apart)
			}
		}
		longest = max(longest, len(rounds))
	}
	if longest < 3 {
		t.Errorf("%d rounds at most", longest)
	}
}

// P3.5
func TestPlanOfAnyRounds(t *testing.T) {
	r := rand.New(rand.NewPCG(3, 5))
	for range 1000 {
		l := some(r, r.IntN(13))
		var rounds []int
		for day := range 24 {
			if len(rounds) < 12 && r.IntN(3) == 0 {
				rounds = append(rounds, day)
			}
		}
		var wanted []int
		for _, p := range l {
			on := -1
			for _, day := range rounds {
				if isSure(p, day) {
					on = day
				}
			}
			wanted = append(wanted, on)
		}
		plan, e := pod.Plan(l, rounds)
		want(t, "Plan", plan, wanted, e, api.OK)
	}
}

// sureGrams follows how many grams are sure in a market; the least weight must be the same on each day of the window.
func sureGrams(t *testing.T, l []api.Pod, market api.Span) int {
	all := 0
	for i, p := range l {
		least := -1
		for _, day := range sureDays(p, market) {
			n := spans(l[i:i+1], []int{day}).Ripe.Low
			if least != -1 && n != least {
				t.Errorf("%v: %d on one day, %d on another one", p, least, n)
			}
			least = n
		}
		all += max(least, 0)
	}
	return all
}

// P3.6, P3.11: no market as long has more that is sure, and what is sure is cut by the rounds.
func TestMarketOfAllDays(t *testing.T) {
	r := rand.New(rand.NewPCG(3, 6))
	for range 120 {
		l := some(r, r.IntN(6))
		days, long := part(r, 0, 15, 12), 1+r.IntN(6)
		bestDay, best := 0, -1
		for day := days.Low; day <= days.High; day++ {
			if n := sureGrams(t, l, span(day, day+long-1)); n > best {
				bestDay, best = day, n
			}
		}
		day, grams, e := pod.Market(l, days, long)
		want(t, "Market", [2]int{day, grams}, [2]int{bestDay, best}, e, api.OK)
		wantSold(t, r, l, span(day, day+long-1), grams)
	}
}

// wantSold compares what the rounds of a market yield with what is sure.
func wantSold(t *testing.T, r *rand.Rand, l []api.Pod, market api.Span, grams int) {
	t.Helper()
	rounds, e := pod.Rounds(l, market)
	plan, f := pod.Plan(l, rounds)
	if e != api.OK || f != api.OK {
		t.Fatalf("%v, %v: %d, %d", l, market, e, f)
	}
	left := 0
	for i, p := range l {
		if can := len(sureDays(p, market)) > 0; can != (plan[i] != -1) || can && (plan[i] < market.Low || plan[i] > market.High) {
			t.Errorf("%v, %v: the plan %v", l, market, plan)
		}
		if plan[i] == -1 {
			left++
		}
	}
	s, e := pod.Weigh(l, plan)
	want(t, "Low", s.Ripe.Low, grams, e, api.OK)
	want(t, "Green", s.Green, api.Span{}, e, api.OK)
	want(t, "Split", s.Split, api.Span{}, e, api.OK)
	y, e := pod.Harvest(l, plan, oneTruth(r, l))
	want(t, "Left", y.Left, left, e, api.OK)
	if y.Ripe < grams || y.Green != 0 || y.Split != 0 {
		t.Errorf("%v, %v, %v: %v, of which %d are sure", l, market, plan, y, grams)
	}
}
