package seal_test

// The properties, and what is said of all chains, against a calculation that follows the document's words.

import (
	"cmp"
	"math/rand/v2"
	"slices"
	"testing"

	"rostellum/api"
	"rostellum/seal"
)

// order is the order of notes.
func order(a, b api.SealNote) int {
	return cmp.Or(
		cmp.Compare(a.By, b.By), a.Seq-b.Seq, a.Kind-b.Kind, cmp.Compare(a.To, b.To), cmp.Compare(a.Claim, b.Claim),
		a.From-b.From, a.Until-b.Until, a.Depth-b.Depth, a.Of-b.Of,
	)
}

// once are notes in their order, each once.
func once(l []api.SealNote) []api.SealNote {
	var ordered []api.SealNote
	for _, n := range l {
		if !slices.Contains(ordered, n) {
			ordered = append(ordered, n)
		}
	}
	slices.SortFunc(ordered, order)
	return ordered
}

func isLiar(l []api.SealNote, name string) bool {
	for _, a := range l {
		for _, b := range l {
			if a.By == name && b.By == name && a.Seq == b.Seq && a != b {
				return true
			}
		}
	}
	return false
}

func liarsOf(l []api.SealNote) []string {
	var names []string
	for _, name := range people {
		if isLiar(l, name) {
			names = append(names, name)
		}
	}
	return names
}

func isInForce(l []api.SealNote, g api.SealNote, day int) bool {
	for _, n := range l {
		if n.Kind == 2 && n.By == g.By && n.Of == g.Seq && n.From <= day && !isLiar(l, n.By) {
			return false
		}
	}
	return g.Kind == 1 && g.From <= day && day <= g.Until && !isLiar(l, g.By)
}

// isChain reports whether grants that are in force are a chain of a claim for a name.
func isChain(roots []string, chain []api.SealNote, claim, name string) bool {
	for i, g := range chain {
		follows := i > 0 && g.By == chain[i-1].To || i == 0 && slices.Contains(roots, g.By)
		if !follows || g.Claim != claim || g.Depth < len(chain)-1-i {
			return false
		}
	}
	return len(chain) > 0 && chain[len(chain)-1].To == name
}

// bestChain tries all lists of at most six grants in force, of which the first one is by a root, and each other one by the name to whom the one before was.
func bestChain(roots []string, l []api.SealNote, claim, name string, day int) (best []api.SealNote, found bool) {
	var grants []api.SealNote
	for _, n := range once(l) {
		if isInForce(l, n, day) {
			grants = append(grants, n)
		}
	}
	var try func(chain []api.SealNote)
	try = func(chain []api.SealNote) {
		if isChain(roots, chain, claim, name) {
			isLess := len(chain) < len(best) || len(chain) == len(best) && slices.CompareFunc(chain, best, order) < 0
			if !found || isLess {
				best, found = slices.Clone(chain), true
			}
		}
		for _, g := range grants {
			follows := len(chain) == 0 && slices.Contains(roots, g.By) || len(chain) > 0 && g.By == chain[len(chain)-1].To
			if len(chain) < 6 && follows {
				try(append(chain, g))
			}
		}
	}
	if slices.Contains(roots, name) {
		return nil, true
	}
	try(nil)
	return best, found
}

func holds(roots []string, l []api.SealNote, claim, name string, day int) bool {
	_, found := bestChain(roots, l, claim, name, day)
	return found
}

var people = []string{"a", "a-", "b", "ba", "c"}

// someNote returns a note by one of five names, on days from 0 to 18.
func someNote(r *rand.Rand) api.SealNote {
	by := people[r.IntN(5)]
	from := r.IntN(10)
	if r.IntN(8) == 0 {
		return back(by, 1+r.IntN(150), 1+r.IntN(150), from)
	}
	to := people[r.IntN(5)]
	for to == by {
		to = people[r.IntN(5)]
	}
	claim := []string{"fair", "fair", "fair", "shade"}[r.IntN(4)]
	return grant(by, 1+r.IntN(150), to, claim, from, from+r.IntN(10), r.IntN(6))
}

// someNotes returns at most so many notes; some of them are in the list again, and some are withdrawn.
func someNotes(r *rand.Rand, most int) []api.SealNote {
	var l []api.SealNote
	fewer := r.IntN(2) * r.IntN(most+1)
	for range most - fewer {
		n := someNote(r)
		if len(l) > 0 {
			other := l[r.IntN(len(l))]
			switch r.IntN(10) {
			case 0:
				n = other
			case 1:
				n = back(other.By, 151+r.IntN(150), other.Seq, r.IntN(15))
			}
		}
		l = append(l, n)
	}
	return l
}

func someRoots(r *rand.Rand) []string {
	var roots []string
	for _, i := range r.Perm(5)[:[]int{0, 1, 1, 1, 1, 2}[r.IntN(6)]] {
		roots = append(roots, people[i])
	}
	return roots
}

// P10.2, P10.3, P10.4
func TestAllChains(t *testing.T) {
	r := rand.New(rand.NewPCG(1, 10))
	lengths, liars, missed := map[int]int{}, 0, 0
	for range 2000 {
		roots, l, day := someRoots(r), someNotes(r, 20), 2+r.IntN(12)
		lying := liarsOf(l)
		wantLiars(t, l, lying...)
		liars += len(lying)
		var holders []string
		for _, name := range people {
			best, found := bestChain(roots, l, "fair", name, day)
			code := api.ErrNone
			if found {
				code = api.OK
				holders = append(holders, name)
				lengths[len(best)]++
			}
			chain, e := seal.Chain(roots, l, "fair", name, day)
			want(t, "Chain", chain, best, e, code)
			var needed []api.SealNote
			for _, n := range once(l) {
				rest := slices.DeleteFunc(slices.Clone(l), func(o api.SealNote) bool { return o == n })
				if found && n.Kind == api.SealGrant && !holds(roots, rest, "fair", name, day) {
					needed = append(needed, n)
				}
			}
			got, e := seal.Needed(roots, l, "fair", name, day)
			want(t, "Needed", got, needed, e, code)
			if len(needed) < len(best) {
				missed++
			}
		}
		got, e := seal.Holders(roots, l, "fair", day)
		want(t, "Holders", got, holders, e, api.OK)
		if t.Failed() {
			t.Fatalf("with %v, %v, on the day %d", roots, l, day)
		}
	}
	if liars < 100 || missed < 100 || lengths[1] < 100 || lengths[2] < 100 || lengths[3] < 20 || lengths[4] == 0 {
		t.Errorf("%d liars, %d chains with grants that are not needed, lengths of chains %v", liars, missed, lengths)
	}
}

// P10.5, P10.10
func TestAllDays(t *testing.T) {
	r := rand.New(rand.NewPCG(2, 10))
	several, borne := 0, 0
	for range 2000 {
		roots, l := someRoots(r), someNotes(r, 20)
		name := people[r.IntN(5)]
		from := r.IntN(8)
		until := from + r.IntN(20-from)
		var spans []api.Span
		for day := from; day <= until; day++ {
			switch {
			case !holds(roots, l, "fair", name, day):
			case len(spans) > 0 && spans[len(spans)-1].High == day-1:
				spans[len(spans)-1].High = day
			default:
				spans = append(spans, span(day, day))
			}
		}
		days, e := seal.Days(roots, l, "fair", name, from, until)
		want(t, "Days", days, spans, e, api.OK)
		if len(spans) > 1 {
			several++
		}
		var pods []api.SealPod
		var not []int
		for i := range r.IntN(5) {
			pods = append(pods, pod(people[r.IntN(5)], r.IntN(20)))
			if !holds(roots, l, "fair", pods[i].Grower, pods[i].Day) {
				not = append(not, i)
			}
		}
		wrong, e := seal.Tin(roots, l, "fair", pods)
		want(t, "Tin", wrong, not, e, api.OK)
		if len(not) == 0 && len(pods) > 0 {
			borne++
		}
		if t.Failed() {
			t.Fatalf("with %v, %v, %s, from %d to %d, %v", roots, l, name, from, until, pods)
		}
	}
	if several < 20 || borne < 100 {
		t.Errorf("%d times several spans, %d tins that may bear the claim", several, borne)
	}
}

// P10.3, at the limits: many grants, of which most lead somewhere.
func TestLargeChains(t *testing.T) {
	r := rand.New(rand.NewPCG(3, 10))
	lengths := map[int]int{}
	for k := range 16 {
		var l []api.SealNote
		for i := range 40 {
			// In half of the lists grants lead from each name to the next one only.
			by := i % 7
			to := (by + 1 + k%2*r.IntN(6)) % 7
			l = append(l, fair("n"+string(rune('a'+by)), 1+i/7, "n"+string(rune('a'+to)), r.IntN(6)))
		}
		root := "n" + string(rune('a'+r.IntN(7)))
		for i := range 7 {
			name := "n" + string(rune('a'+i))
			best, found := bestChain([]string{root}, l, "fair", name, 50)
			code := api.OK
			if !found {
				code = api.ErrNone
			}
			chain, e := seal.Chain([]string{root}, l, "fair", name, 50)
			want(t, "Chain", chain, best, e, code)
			lengths[len(best)]++
			if t.Failed() {
				t.Fatalf("with %s, %v", root, l)
			}
		}
	}
	if lengths[4] == 0 || lengths[5] == 0 || lengths[6] == 0 {
		t.Errorf("lengths of chains %v", lengths)
	}
}

// P10.8
func TestAnyOrder(t *testing.T) {
	r := rand.New(rand.NewPCG(4, 10))
	merge := func(a, b []api.SealNote) []api.SealNote {
		l, e := seal.Merge(a, b)
		if e != api.OK {
			t.Fatalf("Merge of %v and %v: %d", a, b, e)
		}
		return l
	}
	for range 500 {
		a, b, c := someNotes(r, 10), someNotes(r, 10), someNotes(r, 10)
		all := once(slices.Concat(a, b, c))
		want(t, "two lists", merge(a, b), once(slices.Concat(a, b)), 0, 0)
		want(t, "three lists", merge(merge(a, b), c), all, 0, 0)
		want(t, "from behind", merge(a, merge(c, b)), all, 0, 0)
		var alone []api.SealNote
		for _, i := range r.Perm(len(all)) {
			alone = merge(all[i:i+1], alone)
		}
		want(t, "note by note", alone, all, 0, 0)
		mixed := slices.Concat(a, b, c)
		r.Shuffle(len(mixed), func(i, k int) { mixed[i], mixed[k] = mixed[k], mixed[i] })
		for len(all) > 0 && len(mixed) < 40 && r.IntN(5) > 0 {
			mixed = append(mixed, all[r.IntN(len(all))])
		}
		roots := someRoots(r)
		turned := slices.Clone(roots)
		slices.Reverse(turned)
		want(t, "other answers", answers(turned, mixed), answers(roots, all), 0, 0)
		if t.Failed() {
			t.Fatalf("with %v, %v, %v, %v", roots, a, b, c)
		}
	}
}

// answers are those to all that can be asked.
func answers(roots []string, l []api.SealNote) []any {
	var all []any
	add := func(answer any, e api.Errno) { all = append(all, answer, e) }
	list := func(l []api.SealNote, e api.Errno) { add(slices.Concat(l), e) }
	liars, e := seal.Liars(l)
	add(slices.Concat(liars), e)
	s, e := seal.Print(l)
	add(s, e)
	var pods []api.SealPod
	for _, name := range people {
		for _, day := range []int{2, 5} {
			list(seal.Chain(roots, l, "fair", name, day))
			list(seal.Needed(roots, l, "fair", name, day))
			holders, e := seal.Holders(roots, l, "fair", day)
			add(slices.Concat(holders), e)
			pods = append(pods, pod(name, day))
		}
		days, e := seal.Days(roots, l, "fair", name, 0, 9)
		add(slices.Concat(days), e)
	}
	wrong, e := seal.Tin(roots, l, "fair", pods)
	add(slices.Concat(wrong), e)
	return all
}

// P10.9
func TestOneNoteMore(t *testing.T) {
	r := rand.New(rand.NewPCG(5, 10))
	more, fewer := 0, 0
	for range 10000 {
		roots, l, day := someRoots(r), someNotes(r, 20), 2+r.IntN(12)
		n := someNote(r)
		if r.IntN(2) == 0 && len(l) > 0 {
			other := l[r.IntN(len(l))]
			n = back(other.By, 400, other.Seq, r.IntN(15))
		}
		with := append(slices.Clone(l), n)
		if !slices.Equal(liarsOf(l), liarsOf(with)) {
			continue
		}
		before, _ := seal.Holders(roots, l, "fair", day)
		after, e := seal.Holders(roots, with, "fair", day)
		want(t, "Holders", e, api.OK, 0, 0)
		less, greater := before, after
		if n.Kind == api.SealBack {
			less, greater = after, before
		}
		for _, name := range less {
			if !slices.Contains(greater, name) {
				t.Fatalf("%s holds with %v, but not with %v; one of them is a note more", name, before, after)
			}
		}
		if len(less) < len(greater) && n.Kind == api.SealBack {
			fewer++
		} else if len(less) < len(greater) {
			more++
		}
		for _, name := range after {
			chain, e := seal.Chain(roots, with, "fair", name, day)
			isOne := slices.Contains(roots, name) && len(chain) == 0 || isChain(roots, chain, "fair", name)
			if e != api.OK || !isOne || slices.ContainsFunc(chain, func(g api.SealNote) bool { return !isInForce(with, g, day) }) {
				t.Fatalf("%v, %v, %d: Chain for %s: %v, %d", roots, with, day, name, chain, e)
			}
		}
	}
	if more < 100 || fewer < 100 {
		t.Errorf("%d times there were more holders, %d times fewer", more, fewer)
	}
}

// P10.11
func TestTextsComeBack(t *testing.T) {
	r := rand.New(rand.NewPCG(6, 10))
	for range 3000 {
		l := someNotes(r, 40)
		s, e := seal.Print(l)
		want(t, "Print", e, api.OK, 0, 0)
		got, e := seal.Parse(s)
		want(t, "Parse of what was printed", got, once(l), e, api.OK)
	}
	signs, parsed := "grantbck opzfimeu-0129\nA+", 0
	for range 30000 {
		b := []byte(text)
		for range 1 + r.IntN(2) {
			i, c := r.IntN(len(b)), signs[r.IntN(len(signs))]
			switch r.IntN(3) {
			case 0:
				b[i] = c
			case 1:
				b = slices.Insert(b, i, c)
			default:
				b = slices.Delete(b, i, i+1)
			}
		}
		l, e := seal.Parse(string(b))
		if e != api.OK {
			want(t, string(b), l, nil, e, api.ErrForm)
			continue
		}
		parsed++
		want(t, "notes", l, once(l), seal.Check(l), api.OK)
		s, e := seal.Print(l)
		want(t, "Print of what was parsed", s, string(b), e, api.OK)
	}
	if parsed < 100 {
		t.Errorf("%d changed texts were those of notes", parsed)
	}
}
