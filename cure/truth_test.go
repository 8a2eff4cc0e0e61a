package cure_test

// The promises, and the properties, against calculations that follow the document's words and try every truth, every choice of readings, and all acts.

import (
	"cmp"
	"math/rand/v2"
	"slices"
	"testing"

	"rostellum/api"
	"rostellum/cure"
)

// someSpan returns a span of some of the numbers from one to another one, so wide at most.
func someSpan(r *rand.Rand, from, to, wide int) api.Span {
	low := from + r.IntN(to-from+1)
	return span(low, min(to, low+r.IntN(wide+1)))
}

// someRule returns a rule with so many acts at most.
func someRule(r *rand.Rand, many, loss, wide int) []api.CureAct {
	l := make([]api.CureAct, 1+r.IntN(many))
	for i := range l {
		l[i] = api.CureAct{Warm: r.IntN(4) * 10, Behind: r.IntN(1 << len(l)), Dry: r.IntN(3) == 0, First: r.IntN(3) > 0, Most: 1 + r.IntN(3), Loss: someSpan(r, 0, loss, wide)}
	}
	return l
}

// someDays returns so many days at most.
func someDays(r *rand.Rand, many int) []api.CureDay {
	l := make([]api.CureDay, 1+r.IntN(many))
	for i := range l {
		l[i] = api.CureDay{Warm: someSpan(r, 20, 60, 40), Rain: r.IntN(3) == 0}
	}
	return l
}

// areActs follows what acts are, by the document's words.
func areActs(r []api.CureAct, d []api.CureDay, acts []int) bool {
	if len(acts) > len(d) {
		return false
	}
	for day, n := range acts {
		if n < 0 || n >= len(r) {
			return false
		}
		if day == 0 && !r[n].First {
			return false
		}
		if day > 0 && n != acts[day-1] && r[n].Behind&(1<<acts[day-1]) == 0 {
			return false
		}
		if most := r[n].Most; day >= most && !slices.ContainsFunc(acts[day-most:day], func(other int) bool { return other != n }) {
			return false
		}
		if d[day].Warm.Low < r[n].Warm || d[day].Rain && r[n].Dry {
			return false
		}
	}
	return true
}

// allActs returns all lists of acts, the shortest ones in front, and those of one length in order.
func allActs(r []api.CureAct, d []api.CureDay) [][]int {
	all := [][]int{nil}
	for i := 0; i < len(all); i++ {
		for n := range r {
			if next := append(slices.Clone(all[i]), n); areActs(r, d, next) {
				all = append(all, next)
			}
		}
	}
	return all
}

// someActs returns acts that can be done, of those that can be tried one by one.
func someActs(r *rand.Rand, g []api.CureAct, d []api.CureDay) []int {
	var l []int
	for range r.IntN(len(d) + 1) {
		next := append(slices.Clone(l), r.IntN(len(g)))
		for range 8 {
			if areActs(g, d, next) {
				break
			}
			next[len(l)] = r.IntN(len(g))
		}
		if !areActs(g, d, next) {
			break
		}
		l = next
	}
	return l
}

// lossesOf are between what the losses of acts lie.
func lossesOf(r []api.CureAct, acts []int) []api.Span {
	var l []api.Span
	for _, n := range acts {
		l = append(l, r[n].Loss)
	}
	return l
}

// story is what a truth comes to: the weights, Solid and the moistures.
type story struct {
	weights   []int
	solid     int
	moistures []int
}

// moist is the least number of thousandths which are not less than what of a weight is water.
func moist(weight, solid int) int {
	n := 0
	for n*weight < 1000*(weight-solid) {
		n++
	}
	return n
}

// allStories returns those of all truths.
func allStories(b api.CureBox, losses []api.Span) []story {
	var l []story
	var lose func(weights []int)
	lose = func(weights []int) {
		left := weights[len(weights)-1]
		if day := len(weights) - 1; day < len(losses) {
			for lost := losses[day].Low; lost <= losses[day].High; lost++ {
				lose(append(slices.Clone(weights), left-lost))
			}
			return
		}
		for solid := b.Solid.Low; solid <= min(b.Solid.High, left); solid++ {
			s := story{weights: weights, solid: solid}
			for _, w := range weights {
				s.moistures = append(s.moistures, moist(w, solid))
			}
			l = append(l, s)
		}
	}
	for w := b.Weight.Low; w <= b.Weight.High; w++ {
		lose([]int{w})
	}
	return l
}

// isTrue reports whether a reading is true.
func (s story) isTrue(l api.CureRead) bool {
	return max(s.weights[l.Day]-l.Read, l.Read-s.weights[l.Day]) <= l.Wrong
}

// agreeing returns the stories with which all of some readings, given as a set of their indices, are true.
func agreeing(all []story, l []api.CureRead, set int) []story {
	return slices.DeleteFunc(slices.Clone(all), func(s story) bool {
		for i, x := range l {
			if set>>i&1 == 1 && !s.isTrue(x) {
				return true
			}
		}
		return false
	})
}

// ends returns the least and the greatest of a number of each story.
func ends(l []story, of func(s story) int) api.Span {
	x := span(highest, lowest)
	for _, s := range l {
		x = span(min(x.Low, of(s)), max(x.High, of(s)))
	}
	return x
}

// indices returns the numbers of so many that are not in a set.
func indices(many, set int) []int {
	var l []int
	for i := range many {
		if set>>i&1 == 0 {
			l = append(l, i)
		}
	}
	return l
}

// oddOf tries every choice of readings; false if there is no truth at all.
func oddOf(all []story, l []api.CureRead) ([]int, bool) {
	var out [][]int
	for set := range 1 << len(l) {
		if len(agreeing(all, l, set)) > 0 {
			out = append(out, indices(len(l), set))
		}
	}
	if len(out) == 0 {
		return nil, false
	}
	return slices.MinFunc(out, func(a, b []int) int { return cmp.Or(cmp.Compare(len(a), len(b)), slices.Compare(a, b)) }), true
}

// wantKnown compares what is known of a box with what is so in all truths.
func wantKnown(t *testing.T, g []api.CureAct, d []api.CureDay, b api.CureBox, acts []int, l []api.CureRead) (clash bool) {
	t.Helper()
	all := allStories(b, lossesOf(g, acts))
	can := agreeing(all, l, 1<<len(l)-1)
	var weights, moistures []api.Span
	var solid api.Span
	code := api.ErrCureClash
	if len(can) > 0 {
		code = api.OK
		solid = ends(can, func(s story) int { return s.solid })
		for day := range len(acts) + 1 {
			weights = append(weights, ends(can, func(s story) int { return s.weights[day] }))
			moistures = append(moistures, ends(can, func(s story) int { return s.moistures[day] }))
		}
	}
	w, e := cure.Weights(g, d, b, acts, l)
	want(t, "Weights", w, weights, e, code)
	s, e := cure.Solid(g, d, b, acts, l)
	want(t, "Solid", s, solid, e, code)
	m, e := cure.Moisture(g, d, b, acts, l)
	want(t, "Moisture", m, moistures, e, code)
	out, ok := oddOf(all, l)
	if ok {
		code = api.OK
	}
	o, e := cure.Odd(g, d, b, acts, l)
	want(t, "Odd", o, out, e, code)
	if t.Failed() {
		t.Fatalf("of the box %v, the losses %v and the readings %v", b, lossesOf(g, acts), l)
	}
	return len(can) == 0
}

// P6.3, P6.4, P6.7: the ends of all truths.
func TestAllTruths(t *testing.T) {
	r := rand.New(rand.NewPCG(6, 3))
	clashes := map[bool]int{}
	for i := range 3000 {
		g, d := someRule(r, 3, 4, 2), someDays(r, 5)
		b := api.CureBox{Weight: someSpan(r, 1, 14, 4), Solid: someSpan(r, 1, 9, 4)}
		acts := someActs(r, g, d)
		most := 4
		if i%30 == 0 {
			most = api.CureReads
		}
		var l []api.CureRead
		for range r.IntN(most + 1) {
			l = append(l, read(r.IntN(len(acts)+1), r.IntN(14), r.IntN(4)))
		}
		clashes[wantKnown(t, g, d, b, acts, l)]++
	}
	if clashes[true] < 500 || clashes[false] < 500 {
		t.Errorf("clashes: %v", clashes)
	}
}

// P6.2: what Follow tells of truths, and of what is none.
func TestFollowAnything(t *testing.T) {
	r := rand.New(rand.NewPCG(6, 2))
	truths := 0
	for range 3000 {
		g, d := someRule(r, 3, 4, 2), someDays(r, 4)
		b := api.CureBox{Weight: someSpan(r, 1, 14, 4), Solid: someSpan(r, 1, 9, 4)}
		acts := someActs(r, g, d)
		x := api.CureTruth{Weight: b.Weight.Low + r.IntN(5), Solid: b.Solid.Low + r.IntN(4)}
		weights := []int{x.Weight}
		for day, l := range lossesOf(g, acts) {
			x.Losses = append(x.Losses, l.Low+r.IntN(l.High-l.Low+1))
			weights = append(weights, weights[day]-x.Losses[day])
		}
		i := slices.IndexFunc(allStories(b, lossesOf(g, acts)), func(s story) bool { return s.solid == x.Solid && slices.Equal(s.weights, weights) })
		w, m, e := cure.Follow(g, d, b, acts, x)
		if i < 0 {
			want(t, "no truth", w, nil, e, api.ErrCureTruth)
			want(t, "no truth", m, nil, e, api.ErrCureTruth)
			continue
		}
		truths++
		want(t, "weights", w, weights, e, api.OK)
		want(t, "moistures", m, allStories(b, lossesOf(g, acts))[i].moistures, e, api.OK)
	}
	if truths < 500 || truths > 2500 {
		t.Errorf("%d truths", truths)
	}
}

// surely reports whether acts surely reach a limit, by the document's words.
func surely(b api.CureBox, losses []api.Span, limit api.Span) bool {
	all := allStories(b, losses)
	return len(all) > 0 && !slices.ContainsFunc(all, func(s story) bool {
		last := s.moistures[len(losses)]
		return last < limit.Low || last > limit.High
	})
}

// P6.1, P6.5, P6.8: all acts are tried.
func TestAllActs(t *testing.T) {
	r := rand.New(rand.NewPCG(6, 5))
	found := map[int]int{}
	for i := range 6000 {
		g, d := someRule(r, 3, 5, 1), someDays(r, 4)
		b := api.CureBox{Weight: someSpan(r, 1, 20, 1), Solid: someSpan(r, 1, 9, 1)}
		limit := someSpan(r, 0, 900, 400)
		if i%2 == 0 {
			// Such a box takes several days, and does not get too dry.
			b, limit.Low = api.CureBox{Weight: someSpan(r, 16, 22, 1), Solid: someSpan(r, 3, 6, 1)}, 0
		}
		var plan []int
		code := api.ErrNone
		for _, acts := range allActs(g, d) {
			is := surely(b, lossesOf(g, acts), limit)
			if is && code != api.OK {
				plan, code = acts, api.OK
			}
			ok, e := cure.Reaches(g, d, b, acts, limit)
			want(t, "Reaches", ok, is, e, api.OK)
		}
		p, e := cure.Plan(g, d, b, limit)
		want(t, "Plan", p, plan, e, code)
		if t.Failed() {
			t.Fatalf("of %v, %v, %v, %v", g, d, b, limit)
		}
		if code == api.OK {
			found[len(plan)]++
		}
	}
	for many := range 5 {
		if found[many] < 10 {
			t.Errorf("only %d plans of %d acts", found[many], many)
		}
	}
}

// P6.1: all lists, and not only acts.
func TestCanOfAllLists(t *testing.T) {
	r := rand.New(rand.NewPCG(6, 1))
	can := map[bool]int{}
	for range 20000 {
		g, d := someRule(r, 4, 4, 2), someDays(r, 6)
		l := someActs(r, g, d)
		for range r.IntN(3) {
			l = append(l, r.IntN(len(g)))
		}
		ok, e := cure.Can(g, d, l)
		want(t, "Can", ok, areActs(g, d, l), e, api.OK)
		can[ok]++
	}
	if can[true] < 5000 || can[false] < 5000 {
		t.Errorf("acts: %v", can)
	}
}

// large returns a rule, days, a box and acts with numbers up to the limits, and a truth of them; false if there is none.
func large(r *rand.Rand) (g []api.CureAct, d []api.CureDay, b api.CureBox, acts []int, x api.CureTruth, ok bool) {
	g, d = someRule(r, 5, api.CureLoss, 300), someDays(r, 14)
	b = api.CureBox{Weight: someSpan(r, 1000, api.CureWeight, 3000), Solid: someSpan(r, 1, 20000, 40)}
	if r.IntN(2) == 0 {
		b.Weight = someSpan(r, 1000, 40000, 3000)
	}
	acts = someActs(r, g, d)
	in := func(s api.Span) int { return s.Low + r.IntN(s.High-s.Low+1) }
	x = api.CureTruth{Weight: in(b.Weight), Solid: in(b.Solid)}
	for _, l := range lossesOf(g, acts) {
		x.Losses = append(x.Losses, in(l))
	}
	_, _, e := cure.Follow(g, d, b, acts, x)
	return g, d, b, acts, x, e == api.OK
}

// trueReads returns readings of some weights that are true.
func trueReads(r *rand.Rand, weights []int) []api.CureRead {
	var l []api.CureRead
	for range r.IntN(6) {
		day, wrong := r.IntN(len(weights)), r.IntN(500)
		l = append(l, read(day, max(0, weights[day]-wrong+r.IntN(2*wrong+1)), wrong))
	}
	return l
}

func holds(s api.Span, n int) bool { return s.Low <= n && n <= s.High }

// within reports whether each span lies in the one of another list.
func within(l, others []api.Span) bool {
	for i, s := range l {
		if s.Low < others[i].Low || s.High > others[i].High {
			return false
		}
	}
	return len(l) == len(others)
}

// P6.7, P6.9: whatever is so lies in the spans, which readings that are true do not widen.
func TestTruthsLieInSpans(t *testing.T) {
	r := rand.New(rand.NewPCG(6, 7))
	truths := 0
	for range 4000 {
		g, d, b, acts, x, ok := large(r)
		if !ok {
			continue
		}
		truths++
		weights, moistures, _ := cure.Follow(g, d, b, acts, x)
		var before [3][]api.Span
		l := trueReads(r, weights)
		for many := range len(l) + 1 {
			w, e := cure.Weights(g, d, b, acts, l[:many])
			s, _ := cure.Solid(g, d, b, acts, l[:many])
			m, _ := cure.Moisture(g, d, b, acts, l[:many])
			if e != api.OK || !holds(s, x.Solid) {
				t.Fatalf("of %v with the losses %v: %v of %v, %d", b, lossesOf(g, acts), s, x, e)
			}
			for day := range weights {
				if !holds(w[day], weights[day]) || !holds(m[day], moistures[day]) {
					t.Fatalf("of %v with the losses %v: %v, %v of %v", b, lossesOf(g, acts), w, m, x)
				}
			}
			now := [3][]api.Span{w, {s}, m}
			for i := range now {
				if many > 0 && !within(now[i], before[i]) {
					t.Fatalf("the reading %v widens %v to %v", l[many-1], before[i], now[i])
				}
			}
			before = now
		}
	}
	if truths < 1000 {
		t.Errorf("only %d truths", truths)
	}
}

// P6.3, P6.7: large spans end where a reading, or a box, of what lies behind them clashes with all that is known.
func TestEndsOfSpans(t *testing.T) {
	r := rand.New(rand.NewPCG(6, 8))
	for range 1000 {
		g, d, b, acts, x, ok := large(r)
		if !ok {
			continue
		}
		weights, _, _ := cure.Follow(g, d, b, acts, x)
		l := trueReads(r, weights)
		wantEnd := func(b api.CureBox, l []api.CureRead, code api.Errno) {
			t.Helper()
			if _, e := cure.Moisture(g, d, b, acts, l); e != code {
				t.Fatalf("of %v with the losses %v and the readings %v: %d", b, lossesOf(g, acts), l, e)
			}
		}
		w, _ := cure.Weights(g, d, b, acts, l)
		for day, s := range w {
			wantEnd(b, append(slices.Clone(l), read(day, s.Low, 0)), api.OK)
			wantEnd(b, append(slices.Clone(l), read(day, s.High, 0)), api.OK)
			wantEnd(b, append(slices.Clone(l), read(day, s.Low-1, 0)), api.ErrCureClash)
			wantEnd(b, append(slices.Clone(l), read(day, s.High+1, 0)), api.ErrCureClash)
		}
		s, _ := cure.Solid(g, d, b, acts, l)
		for _, x := range []struct {
			from, to int
			e        api.Errno
		}{{s.Low, s.Low, api.OK}, {s.High, s.High, api.OK}, {b.Solid.Low, s.Low - 1, api.ErrCureClash}, {s.High + 1, b.Solid.High, api.ErrCureClash}} {
			if x.from <= x.to {
				wantEnd(api.CureBox{Weight: b.Weight, Solid: span(x.from, x.to)}, l, x.e)
			}
		}
		wantMoistures(t, g, d, b, acts, l)
	}
}

// wantMoistures compares the moistures with those of each Solid, which are at the ends of its weights.
func wantMoistures(t *testing.T, g []api.CureAct, d []api.CureDay, b api.CureBox, acts []int, l []api.CureRead) {
	t.Helper()
	all := slices.Repeat([]api.Span{span(highest, lowest)}, len(acts)+1)
	for solid := b.Solid.Low; solid <= b.Solid.High; solid++ {
		w, e := cure.Weights(g, d, api.CureBox{Weight: b.Weight, Solid: span(solid, solid)}, acts, l)
		if e != api.OK {
			continue
		}
		for day, s := range w {
			all[day] = span(min(all[day].Low, moist(s.Low, solid)), max(all[day].High, moist(s.High, solid)))
		}
	}
	m, e := cure.Moisture(g, d, b, acts, l)
	want(t, "Moisture", m, all, e, api.OK)
}

// narrower returns some span within another one.
func narrower(r *rand.Rand, s api.Span) api.Span {
	low := s.Low + r.IntN(s.High-s.Low+1)
	return span(low, low+r.IntN(s.High-low+1))
}

// P6.8, P6.9: acts that surely reach a limit do so in every truth, and whatever else is known of it.
func TestReachedWhateverIsSo(t *testing.T) {
	r := rand.New(rand.NewPCG(6, 9))
	reached := map[bool]int{}
	for i := range 3000 {
		g, d, b, _, _, _ := large(r)
		limit := someSpan(r, 0, 1000, 400)
		if i%2 == 0 {
			limit.Low = 0
		}
		acts, e := cure.Plan(g, d, b, limit)
		if e != api.OK {
			continue
		}
		reached[len(acts) > 1]++
		h, c := slices.Clone(g), api.CureBox{Weight: narrower(r, b.Weight), Solid: narrower(r, b.Solid)}
		for i := range h {
			h[i].Loss = narrower(r, g[i].Loss)
		}
		ok, e := cure.Reaches(g, d, b, acts, limit)
		want(t, "Reaches", ok, true, e, api.OK)
		_, none := cure.Moisture(h, d, c, acts, nil)
		ok, e = cure.Reaches(h, d, c, acts, limit)
		want(t, "Reaches with narrower spans", ok, none == api.OK, e, api.OK)
		if p, e := cure.Plan(h, d, c, limit); none == api.OK && (e != api.OK || len(p) > len(acts)) {
			t.Errorf("with narrower spans: %v, %d instead of %v", p, e, acts)
		}
	}
	if reached[false] < 100 || reached[true] < 100 {
		t.Errorf("plans of several acts: %v", reached)
	}
}

// P6.5, P6.8: long plans, against the acts of each day one by one: of those that are alike in what may follow them, and in what was lost, the first ones.
func TestLongPlans(t *testing.T) {
	r := rand.New(rand.NewPCG(6, 6))
	long := 0
	for range 150 {
		g, d := someRule(r, 5, 30, 1), slices.Concat(someDays(r, 7), someDays(r, 7))
		b := api.CureBox{Weight: someSpan(r, 200, 260, 3), Solid: someSpan(r, 100, 110, 2)}
		limit := span(0, 100+r.IntN(300))
		plan, code := planByDays(g, d, b, limit)
		p, e := cure.Plan(g, d, b, limit)
		want(t, "Plan", p, plan, e, code)
		if len(plan) > 4 {
			long++
		}
	}
	if long < 10 {
		t.Errorf("only %d long plans", long)
	}
}

// planByDays looks for a plan among all acts of no day, of one day, and so on.
func planByDays(g []api.CureAct, d []api.CureDay, b api.CureBox, limit api.Span) ([]int, api.Errno) {
	type likeness struct {
		last, row int
		lost      api.Span
	}
	alike := func(acts []int) likeness {
		x := likeness{last: -1}
		for _, n := range acts {
			if n != x.last {
				x.last, x.row = n, 0
			}
			x.row++
			x.lost = span(x.lost.Low+g[n].Loss.Low, x.lost.High+g[n].Loss.High)
		}
		return x
	}
	now := [][]int{nil}
	for len(now) > 0 {
		var next [][]int
		seen := map[likeness]bool{}
		for _, acts := range now {
			if ok, _ := cure.Reaches(g, d, b, acts, limit); ok {
				return acts, api.OK
			}
			for n := range g {
				longer := append(slices.Clone(acts), n)
				if x := alike(longer); areActs(g, d, longer) && !seen[x] {
					seen[x] = true
					next = append(next, longer)
				}
			}
		}
		now = next
	}
	return nil, api.ErrNone
}

// P6.5: a rule whose acts can follow each other on all days has more plans than can be tried.
func TestGreatestRule(t *testing.T) {
	g := free(span(1, 2), span(20, 25), span(400, 444), span(7000, 7777), span(3333, 3400))
	b := api.CureBox{Weight: span(1, 1000000), Solid: span(1, 900000)}
	p, e := cure.Plan(g, fine(14), b, span(0, 1))
	want(t, "Plan of a wide box", p, nil, e, api.ErrNone)
	b = api.CureBox{Weight: span(98001, 98001), Solid: span(1, 1)}
	p, e = cure.Plan(free(span(1, 1), span(20, 20), span(400, 400), span(7000, 7000), span(3333, 3333)), fine(14), b, span(0, 0))
	want(t, "Plan of the greatest losses", p, slices.Repeat([]int{3}, 14), e, api.OK)
}
