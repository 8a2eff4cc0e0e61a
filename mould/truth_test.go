package mould_test

// The promises, and the properties, against calculations that follow the document's words and try every truth.

import (
	"math/bits"
	"math/rand/v2"
	"slices"
	"testing"

	"rostellum/api"
	"rostellum/mould"
)

// someRun returns a run with at most so many pods, boxes, days and pairs.
func someRun(r *rand.Rand, pods, boxes, many, pairs int) api.MouldRun {
	g := api.MouldRun{Pods: 1 + r.IntN(pods), Boxes: 1 + r.IntN(boxes), Delay: r.IntN(4)}
	g.Few = r.IntN(g.Pods + 1)
	if r.IntN(2) == 0 {
		g.Few = min(g.Few, 1)
	}
	for range 1 + r.IntN(many) {
		day := make([]int, g.Pods)
		for pod := range day {
			day[pod] = r.IntN(g.Boxes)
		}
		g.Where = append(g.Where, day)
	}
	all := near()
	for b := range g.Boxes {
		for a := range b {
			all = append(all, api.BoxPair{A: a, B: b})
		}
	}
	r.Shuffle(len(all), func(a, b int) { all[a], all[b] = all[b], all[a] })
	g.Near = all[:min(r.IntN(pairs+1), len(all))]
	return g
}

// truths returns all truths of a run.
func truths(r api.MouldRun) []api.MouldTruth {
	var l []api.MouldTruth
	var leaks []int
	var choose func(first int)
	choose = func(first int) {
		if len(leaks) == len(r.Where) {
			l = append(l, leaking(first, slices.Clone(leaks)...))
			return
		}
		for set := range 1 << len(r.Near) {
			leaks = append(leaks, set)
			choose(first)
			leaks = leaks[:len(leaks)-1]
		}
	}
	for first := range 1 << r.Pods {
		if bits.OnesCount(uint(first)) <= r.Few {
			choose(first)
		}
	}
	return l
}

func has(set, one int) bool { return set&(1<<one) != 0 }

// follow follows what the pods with mould are at each time, by the document's words.
func follow(r api.MouldRun, t api.MouldTruth) []int {
	now := make([]bool, r.Pods)
	for pod := range now {
		now[pod] = has(t.First, pod)
	}
	l := []int{t.First}
	for day, where := range r.Where {
		inBoxes := slices.Clone(now)
		for a := range now {
			for b := range now {
				inBoxes[a] = inBoxes[a] || where[a] == where[b] && now[b]
			}
		}
		now = slices.Clone(inBoxes)
		for k, p := range r.Near {
			for a := range now {
				for b := range now {
					of := func(pod int) bool { return where[pod] == p.A || where[pod] == p.B }
					now[a] = now[a] || has(t.Leaks[day], k) && of(a) && of(b) && inBoxes[b]
				}
			}
		}
		set := 0
		for pod, is := range now {
			if is {
				set += 1 << pod
			}
		}
		l = append(l, set)
	}
	return l
}

// smells reports whether a sniff smells, by the document's words.
func smells(r api.MouldRun, played []int, s api.Sniff) bool {
	return s.Time >= r.Delay && has(played[s.Time-r.Delay], s.Pod)
}

// agreed are, of all truths of a run, those that agree with sniffs, and what is played with them.
func agreed(r api.MouldRun, all []api.MouldTruth, l []api.Sniff) (some []api.MouldTruth, played [][]int) {
	for _, t := range all {
		p := follow(r, t)
		if !slices.ContainsFunc(l, func(s api.Sniff) bool { return smells(r, p, s) != s.Smells }) {
			some, played = append(some, t), append(played, p)
		}
	}
	return some, played
}

// at returns the pods that have mould with any of what is played at a time, and those that have it with all of it.
func at(played [][]int, time int) (can, sure int) {
	sure = -1
	for _, p := range played {
		can, sure = can|p[time], sure&p[time]
	}
	return can, sure
}

// someSniffs returns sniffs that are true of a truth, but for one of them now and then.
func someSniffs(r *rand.Rand, g api.MouldRun, t api.MouldTruth, many int) []api.Sniff {
	var l []api.Sniff
	p := follow(g, t)
	for range r.IntN(many + 1) {
		s := notSmelt(r.IntN(len(p)), r.IntN(g.Pods))
		s.Smells = smells(g, p, s) != (r.IntN(20) == 0)
		l = append(l, s)
	}
	return l
}

// shipped are the boxes that can be shipped, by the document's words.
func shipped(r api.MouldRun, can int) []int {
	var l []int
	for box := range r.Boxes {
		inside, clean := 0, true
		for pod, in := range r.Where[len(r.Where)-1] {
			if in == box {
				inside++
				clean = clean && !has(can, pod)
			}
		}
		if inside > 0 && clean {
			l = append(l, box)
		}
	}
	return l
}

// sniffed is the pod that should be sniffed, by the document's words; can tells which pods can have mould at the last time, by sniffs, and whether any truth agrees.
func sniffed(r api.MouldRun, l []api.Sniff, can func(l []api.Sniff) (int, bool)) (pod, worst int) {
	last := len(r.Where)
	var counts []int
	for pod := range r.Pods {
		most := -1
		for _, s := range sniffs(smelt(last, pod), notSmelt(last, pod)) {
			if set, ok := can(append(slices.Clone(l), s)); ok {
				most = max(most, bits.OnesCount(uint(set)))
			}
		}
		counts = append(counts, most)
	}
	worst = slices.Min(counts)
	return slices.Index(counts, worst), worst
}

// P7.2, P7.7: mould never leaves a pod.
func TestPlayOfAllTruths(t *testing.T) {
	r := rand.New(rand.NewPCG(7, 2))
	for range 150 {
		g := someRun(r, 6, 5, 2, 4)
		for _, x := range truths(g) {
			p, e := mould.Play(g, x)
			want(t, "Play", p, follow(g, x), e, api.OK)
			for time := range g.Where {
				if p[time]&^p[time+1] != 0 {
					t.Errorf("Play(%v, %v): %v", g, x, p)
				}
			}
		}
	}
}

// P7.2: also of long runs.
func TestPlayOfLongRuns(t *testing.T) {
	r := rand.New(rand.NewPCG(7, 20))
	for range 2000 {
		g := someRun(r, 8, 5, 10, 4)
		x := api.MouldTruth{Leaks: make([]int, len(g.Where))}
		for day := range x.Leaks {
			x.Leaks[day] = r.IntN(1<<len(g.Near)) & r.IntN(1<<len(g.Near))
		}
		if g.Few > 0 {
			x.First = 1 << r.IntN(g.Pods)
		}
		p, e := mould.Play(g, x)
		want(t, "Play", p, follow(g, x), e, api.OK)
	}
}

// P7.2
func TestAgreesOfAllTruths(t *testing.T) {
	r := rand.New(rand.NewPCG(7, 3))
	seen := map[bool]int{}
	for range 150 {
		g := someRun(r, 5, 4, 2, 3)
		all := truths(g)
		l := someSniffs(r, g, all[r.IntN(len(all))], 3)
		for _, x := range all {
			some, _ := agreed(g, []api.MouldTruth{x}, l)
			ok, e := mould.Agrees(g, x, l)
			want(t, "Agrees", ok, len(some) == 1, e, api.OK)
			seen[ok]++
		}
	}
	if seen[true] < 100 || seen[false] < 100 {
		t.Errorf("seen: %v", seen)
	}
}

// P7.3, P7.4, P7.5, P7.8, P7.9
func TestWhatAllTruthsTell(t *testing.T) {
	r := rand.New(rand.NewPCG(7, 8))
	none, shippedSome, sure, later, better := 0, 0, 0, 0, 0
	for range 1500 {
		g := someRun(r, 6, 5, 3, 2)
		all := truths(g)
		l := someSniffs(r, g, all[r.IntN(len(all))], 6)
		some, played := agreed(g, all, l)
		if len(some) == 0 {
			none++
			wantCan(t, "no truth", g, l, r.IntN(len(g.Where)+1), 0, 0, api.ErrNone)
			wantShip(t, "no truth", g, l, nil, api.ErrNone)
			wantNext(t, "no truth", g, l, 0, 0, api.ErrNone)
			continue
		}
		for time := range len(g.Where) + 1 {
			can, must := at(played, time)
			wantCan(t, "all truths", g, l, time, can, must, api.OK)
			if must != 0 && must != can {
				sure++
			}
		}
		can, _ := at(played, len(g.Where))
		boxes := shipped(g, can)
		wantShip(t, "all truths", g, l, boxes, api.OK)
		pod, worst := sniffed(g, l, func(l []api.Sniff) (int, bool) {
			some, played := agreed(g, all, l)
			can, _ := at(played, len(g.Where))
			return can, len(some) > 0
		})
		wantNext(t, "all truths", g, l, pod, worst, api.OK)
		if len(boxes) > 0 && can != 0 {
			shippedSome++
		}
		if pod > 0 {
			later++
		}
		if worst < bits.OnesCount(uint(can)) {
			better++
		}
	}
	if none < 50 || shippedSome < 50 || sure < 50 || later < 20 || better < 50 {
		t.Errorf("seen: %d, %d, %d, %d, %d", none, shippedSome, sure, later, better)
	}
}

// P7.3 to P7.5: long runs, in which the truths cannot be tried one by one, are followed by all sets of pods at once.
func TestLongRuns(t *testing.T) {
	r := rand.New(rand.NewPCG(7, 10))
	possible := 0
	for range 400 {
		g := someRun(r, 8, 5, 10, 4)
		g.Delay = r.IntN(11)
		x := api.MouldTruth{First: r.IntN(2) * min(g.Few, 1) << r.IntN(g.Pods), Leaks: make([]int, len(g.Where))}
		for day := range x.Leaks {
			x.Leaks[day] = r.IntN(1<<len(g.Near)) & r.IntN(1<<len(g.Near))
		}
		l := someSniffs(r, g, x, 24)
		sets := allSets(g, l)
		last := len(g.Where)
		if len(sets[last]) == 0 {
			wantCan(t, "no truth", g, l, 0, 0, 0, api.ErrNone)
			wantNext(t, "no truth", g, l, 0, 0, api.ErrNone)
			continue
		}
		possible++
		for time, some := range sets {
			can, sure := ofSets(some)
			wantCan(t, "long", g, l, time, can, sure, api.OK)
		}
		can, _ := ofSets(sets[last])
		wantShip(t, "long", g, l, shipped(g, can), api.OK)
		pod, worst := sniffed(g, l, func(l []api.Sniff) (int, bool) {
			some := allSets(g, l)[last]
			can, _ := ofSets(some)
			return can, len(some) > 0
		})
		wantNext(t, "long", g, l, pod, worst, api.OK)
	}
	if possible < 100 || possible > 390 {
		t.Errorf("%d of 400 runs are possible", possible)
	}
}

// ofSets returns the pods that are in any of some sets, and those that are in each one.
func ofSets(some map[int]bool) (can, sure int) {
	sure = -1
	for set := range some {
		can, sure = can|set, sure&set
	}
	return can, sure
}

// allSets returns for each time the sets of pods with mould that can be then: what can follow from the first day on, and of it only what can go on up to the last day.
func allSets(g api.MouldRun, l []api.Sniff) []map[int]bool {
	follows := func(day, set, leaks int) int {
		return follow(api.MouldRun{Pods: g.Pods, Where: g.Where[day : day+1], Near: g.Near}, leaking(set, leaks))[1]
	}
	fits := func(time, set int) bool {
		return !slices.ContainsFunc(l, func(s api.Sniff) bool {
			return s.Time-g.Delay == time && has(set, s.Pod) != s.Smells || s.Time < g.Delay && s.Smells
		})
	}
	sets := []map[int]bool{{}}
	for set := range 1 << g.Pods {
		if bits.OnesCount(uint(set)) <= g.Few && fits(0, set) {
			sets[0][set] = true
		}
	}
	for day := range g.Where {
		next := map[int]bool{}
		for set := range sets[day] {
			for leaks := range 1 << len(g.Near) {
				if to := follows(day, set, leaks); fits(day+1, to) {
					next[to] = true
				}
			}
		}
		sets = append(sets, next)
	}
	for day := len(g.Where) - 1; day >= 0; day-- {
		for set := range sets[day] {
			goesOn := false
			for leaks := range 1 << len(g.Near) {
				goesOn = goesOn || sets[day+1][follows(day, set, leaks)]
			}
			if !goesOn {
				delete(sets[day], set)
			}
		}
	}
	return sets
}

// P7.10: with one more sniff that is true no pod more can have mould, and none less surely has; the number of Next holds.
func TestOneMoreSniff(t *testing.T) {
	r := rand.New(rand.NewPCG(7, 100))
	fewer := 0
	for range 400 {
		g := someRun(r, 7, 5, 3, 2)
		all := truths(g)
		l := someSniffs(r, g, all[r.IntN(len(all))], 5)
		some, played := agreed(g, all, l)
		if len(some) == 0 {
			continue
		}
		last := len(g.Where)
		actual := played[r.IntN(len(played))]
		more := notSmelt(r.IntN(last+1), r.IntN(g.Pods))
		more.Smells = smells(g, actual, more)
		for time := range last + 1 {
			can, sure, _ := mould.Can(g, l, time)
			canThen, sureThen, e := mould.Can(g, append(slices.Clone(l), more), time)
			if e != api.OK || canThen&^can != 0 || sure&^sureThen != 0 || actual[time]&^canThen != 0 || sureThen&^actual[time] != 0 {
				t.Errorf("%v, %v, and %v: at %d %d, %d, and then %d, %d, %d; true is %d", g, l, more, time, can, sure, canThen, sureThen, e, actual[time])
			}
			if canThen != can {
				fewer++
			}
		}
		pod, worst, _ := mould.Next(g, l)
		asked := notSmelt(last, pod)
		asked.Smells = smells(g, actual, asked)
		can, _, e := mould.Can(g, append(slices.Clone(l), asked), last)
		if e != api.OK || bits.OnesCount(uint(can)) > worst {
			t.Errorf("%v, %v: once %d is sniffed, %d can have mould, and not %d at most", g, l, pod, can, worst)
		}
	}
	if fewer < 50 {
		t.Errorf("a sniff told something %d times", fewer)
	}
}

// P7.11: with fewer pods that can have it at first, or fewer pairs that are near, no pod more can have mould.
func TestLess(t *testing.T) {
	r := rand.New(rand.NewPCG(7, 11))
	fewer := 0
	for range 400 {
		g := someRun(r, 8, 5, 6, 4)
		x := api.MouldTruth{First: min(g.Few, 1) << r.IntN(g.Pods), Leaks: make([]int, len(g.Where))}
		l := someSniffs(r, g, x, 4)
		less := g
		less.Few = r.IntN(g.Few + 1)
		if len(g.Near) > 0 {
			k := r.IntN(len(g.Near))
			less.Near = slices.Concat(g.Near[:k], g.Near[k+1:])
		}
		for time := range len(g.Where) + 1 {
			can, _, e := mould.Can(g, l, time)
			canThen, _, eThen := mould.Can(less, l, time)
			if e != api.OK && eThen == api.OK || canThen&^can != 0 {
				t.Errorf("%v, %v: at %d %d, %d; with less, %v, %d, %d", g, l, time, can, e, less, canThen, eThen)
			}
			if eThen == api.OK && canThen != can {
				fewer++
			}
		}
	}
	if fewer < 50 {
		t.Errorf("less made a difference %d times", fewer)
	}
}
