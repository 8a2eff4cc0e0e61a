package seal_test

import (
	"math/rand/v2"
	"reflect"
	"slices"
	"strconv"
	"strings"
	"testing"

	"rostellum/api"
	"rostellum/seal"
)

const lowest, highest = -1 << 63, 1<<63 - 1

// long is the longest word, tooLong a byte longer.
const long, tooLong = "abcdefghijklmnop", "abcdefghijklmnopq"

func grant(by string, seq int, to, claim string, from, until, depth int) api.SealNote {
	return api.SealNote{Kind: api.SealGrant, By: by, Seq: seq, To: to, Claim: claim, From: from, Until: until, Depth: depth}
}

func back(by string, seq, of, from int) api.SealNote {
	return api.SealNote{Kind: api.SealBack, By: by, Seq: seq, Of: of, From: from}
}

// fair is a grant of the claim fair, on the days 0 to 100.
func fair(by string, seq int, to string, depth int) api.SealNote {
	return grant(by, seq, to, "fair", 0, 100, depth)
}

// root, notes and text are those of the document's examples; the notes are in the order of notes.
func root() []string { return []string{"council"} }

func notes() []api.SealNote {
	return []api.SealNote{
		grant("coop", 1, "mena", "fair", 10, 90, 0),
		grant("coop", 2, "zo", "fair", 20, 60, 0),
		back("coop", 3, 1, 50),
		grant("council", 1, "coop", "fair", 0, 100, 1),
		grant("mena", 1, "ka", "fair", 10, 90, 0),
	}
}

const text = "grant coop 1 mena fair 10 90 0\n" +
	"grant coop 2 zo fair 20 60 0\n" +
	"back coop 3 1 50\n" +
	"grant council 1 coop fair 0 100 1\n" +
	"grant mena 1 ka fair 10 90 0\n"

// noteWith are the notes of the examples, of which one is changed.
func noteWith(i int, change func(n *api.SealNote)) []api.SealNote {
	l := notes()
	change(&l[i])
	return l
}

// many are so many different notes, in the order of notes.
func many(from, many int) []api.SealNote {
	var l []api.SealNote
	for seq := from; seq < from+many; seq++ {
		l = append(l, fair("council", seq, "coop", 0))
	}
	return l
}

func pod(grower string, day int) api.SealPod { return api.SealPod{Grower: grower, Day: day} }

func span(low, high int) api.Span { return api.Span{Low: low, High: high} }

// want compares a result; a nil list and an empty one are the same.
func want[T any](t *testing.T, name string, got, wanted T, e, code api.Errno) {
	t.Helper()
	if e != code {
		t.Errorf("%s: error %d instead of %d", name, e, code)
	}
	if v := reflect.ValueOf(got); v.Kind() == reflect.Slice && v.Len() == 0 && reflect.ValueOf(wanted).Len() == 0 {
		return
	}
	if !reflect.DeepEqual(got, wanted) {
		t.Errorf("%s: %v instead of %v", name, got, wanted)
	}
}

func wantChain(t *testing.T, l []api.SealNote, name string, day int, wanted []api.SealNote, code api.Errno) {
	t.Helper()
	got, e := seal.Chain(root(), l, "fair", name, day)
	want(t, "Chain for "+name+" on the day "+strconv.Itoa(day), got, wanted, e, code)
}

func wantHolders(t *testing.T, l []api.SealNote, day int, wanted ...string) {
	t.Helper()
	got, e := seal.Holders(root(), l, "fair", day)
	want(t, "Holders on the day "+strconv.Itoa(day), got, wanted, e, api.OK)
}

func wantNeeded(t *testing.T, l []api.SealNote, name string, day int, wanted ...api.SealNote) {
	t.Helper()
	got, e := seal.Needed(root(), l, "fair", name, day)
	want(t, "Needed for "+name+" on the day "+strconv.Itoa(day), got, wanted, e, api.OK)
}

func wantDays(t *testing.T, l []api.SealNote, name string, from, until int, wanted ...api.Span) {
	t.Helper()
	got, e := seal.Days(root(), l, "fair", name, from, until)
	want(t, "Days for "+name, got, wanted, e, api.OK)
}

func wantLiars(t *testing.T, l []api.SealNote, wanted ...string) {
	t.Helper()
	got, e := seal.Liars(l)
	want(t, "Liars", got, wanted, e, api.OK)
}

func TestExamples(t *testing.T) {
	l := notes()
	wantChain(t, l, "mena", 40, []api.SealNote{l[3], l[0]}, api.OK)
	wantChain(t, l, "mena", 50, nil, api.ErrNone)
	wantChain(t, l, "ka", 40, nil, api.ErrNone)
	wantHolders(t, l, 30, "coop", "council", "mena", "zo")
	wantHolders(t, l, 55, "coop", "council", "zo")
	wantNeeded(t, l, "mena", 40, l[0], l[3])
	wantDays(t, l, "mena", 0, 100, span(10, 49))
	wantDays(t, l, "zo", 0, 100, span(20, 60))
	wrong, e := seal.Tin(root(), l, "fair", []api.SealPod{pod("mena", 40), pod("zo", 50), pod("mena", 50)})
	want(t, "Tin", wrong, []int{2}, e, api.OK)
	wantLiars(t, l)
	lie := append(l, grant("coop", 2, "zo", "fair", 20, 61, 0))
	wantLiars(t, lie, "coop")
	wantHolders(t, lie, 30, "coop", "council")
	s, e := seal.Print(l[1:3])
	want(t, "Print", s, "grant coop 2 zo fair 20 60 0\nback coop 3 1 50\n", e, api.OK)
}

// TestExampleOfTheWhole is that of DOC.md.
func TestExampleOfTheWhole(t *testing.T) {
	l := []api.SealNote{fair("council", 1, "a", 1), fair("a", 1, "b", 5), fair("b", 1, "c", 5)}
	wantHolders(t, l, 0, "a", "b", "council")
}

func wrongNotes() map[string][]api.SealNote {
	return map[string][]api.SealNote{
		"zero":                  make([]api.SealNote, 1),
		"41 notes":              many(1, 41),
		"41 times one note":     slices.Repeat(notes()[:1], 41),
		"kind 0":                noteWith(0, func(n *api.SealNote) { n.Kind = 0 }),
		"kind 3":                noteWith(0, func(n *api.SealNote) { n.Kind = 3 }),
		"kind -1":               noteWith(4, func(n *api.SealNote) { n.Kind = -1 }),
		"lowest kind":           noteWith(4, func(n *api.SealNote) { n.Kind = lowest }),
		"highest kind":          noteWith(4, func(n *api.SealNote) { n.Kind = highest }),
		"a grant that is none":  noteWith(0, func(n *api.SealNote) { n.Kind = api.SealBack }),
		"a back that is none":   noteWith(2, func(n *api.SealNote) { n.Kind = api.SealGrant }),
		"by nobody":             noteWith(0, func(n *api.SealNote) { n.By = "" }),
		"by no word":            noteWith(4, func(n *api.SealNote) { n.By = "Mena" }),
		"by too long a word":    noteWith(4, func(n *api.SealNote) { n.By = tooLong }),
		"back by nobody":        noteWith(2, func(n *api.SealNote) { n.By = "" }),
		"back by no word":       noteWith(2, func(n *api.SealNote) { n.By = "co op" }),
		"seq 0":                 noteWith(0, func(n *api.SealNote) { n.Seq = 0 }),
		"seq -1":                noteWith(0, func(n *api.SealNote) { n.Seq = -1 }),
		"seq 1001":              noteWith(4, func(n *api.SealNote) { n.Seq = 1001 }),
		"lowest seq":            noteWith(4, func(n *api.SealNote) { n.Seq = lowest }),
		"highest seq":           noteWith(4, func(n *api.SealNote) { n.Seq = highest }),
		"back with seq 0":       noteWith(2, func(n *api.SealNote) { n.Seq = 0 }),
		"back with seq 1001":    noteWith(2, func(n *api.SealNote) { n.Seq = 1001 }),
		"to nobody":             noteWith(0, func(n *api.SealNote) { n.To = "" }),
		"to no word":            noteWith(4, func(n *api.SealNote) { n.To = "-ka" }),
		"to too long a word":    noteWith(4, func(n *api.SealNote) { n.To = tooLong }),
		"to oneself":            noteWith(0, func(n *api.SealNote) { n.To = n.By }),
		"no claim":              noteWith(0, func(n *api.SealNote) { n.Claim = "" }),
		"claim no word":         noteWith(4, func(n *api.SealNote) { n.Claim = "fair!" }),
		"claim too long":        noteWith(4, func(n *api.SealNote) { n.Claim = tooLong }),
		"from -1":               noteWith(0, func(n *api.SealNote) { n.From = -1 }),
		"from lowest":           noteWith(0, func(n *api.SealNote) { n.From = lowest }),
		"from 30001":            noteWith(0, func(n *api.SealNote) { n.From, n.Until = 30001, 30001 }),
		"from highest":          noteWith(0, func(n *api.SealNote) { n.From, n.Until = highest, highest }),
		"back from -1":          noteWith(2, func(n *api.SealNote) { n.From = -1 }),
		"back from 30001":       noteWith(2, func(n *api.SealNote) { n.From = 30001 }),
		"back from lowest":      noteWith(2, func(n *api.SealNote) { n.From = lowest }),
		"back from highest":     noteWith(2, func(n *api.SealNote) { n.From = highest }),
		"until before from":     noteWith(0, func(n *api.SealNote) { n.Until = 9 }),
		"until -1":              noteWith(0, func(n *api.SealNote) { n.From, n.Until = 0, -1 }),
		"until lowest":          noteWith(4, func(n *api.SealNote) { n.Until = lowest }),
		"until 30001":           noteWith(4, func(n *api.SealNote) { n.Until = 30001 }),
		"until highest":         noteWith(4, func(n *api.SealNote) { n.Until = highest }),
		"depth -1":              noteWith(0, func(n *api.SealNote) { n.Depth = -1 }),
		"depth 6":               noteWith(4, func(n *api.SealNote) { n.Depth = 6 }),
		"lowest depth":          noteWith(4, func(n *api.SealNote) { n.Depth = lowest }),
		"highest depth":         noteWith(4, func(n *api.SealNote) { n.Depth = highest }),
		"grant of something":    noteWith(0, func(n *api.SealNote) { n.Of = 1 }),
		"grant of -1":           noteWith(4, func(n *api.SealNote) { n.Of = -1 }),
		"back of 0":             noteWith(2, func(n *api.SealNote) { n.Of = 0 }),
		"back of -1":            noteWith(2, func(n *api.SealNote) { n.Of = -1 }),
		"back of 1001":          noteWith(2, func(n *api.SealNote) { n.Of = 1001 }),
		"back of lowest":        noteWith(2, func(n *api.SealNote) { n.Of = lowest }),
		"back of highest":       noteWith(2, func(n *api.SealNote) { n.Of = highest }),
		"back to somebody":      noteWith(2, func(n *api.SealNote) { n.To = "mena" }),
		"back of a claim":       noteWith(2, func(n *api.SealNote) { n.Claim = "fair" }),
		"back until 50":         noteWith(2, func(n *api.SealNote) { n.Until = 50 }),
		"back until -1":         noteWith(2, func(n *api.SealNote) { n.Until = -1 }),
		"back with depth 1":     noteWith(2, func(n *api.SealNote) { n.Depth = 1 }),
		"back with depth -1":    noteWith(2, func(n *api.SealNote) { n.Depth = -1 }),
		"the last of 40":        append(many(1, 39), api.SealNote{}),
		"another claim's wrong": append(notes(), grant("x", 1, "y", "shade", 5, 4, 0)),
	}
}

func goodNotes() map[string][]api.SealNote {
	return map[string][]api.SealNote{
		"none":              nil,
		"empty":             {},
		"example":           notes(),
		"40 notes":          many(961, 40),
		"40 times one note": slices.Repeat(notes()[:1], 40),
		"least":             {grant("a", 1, "b", "c", 0, 0, 0)},
		"greatest":          {grant(long, 1000, "z-------------99", long, 30000, 30000, 5)},
		"the longest time":  {grant("a", 1, "b", "a", 0, 30000, 0)},
		"least back":        {back("a", 1, 1, 0)},
		"greatest back":     {back(long, 1000, 1000, 30000)},
		"a lie":             {fair("a", 1, "b", 0), back("a", 1, 1, 0)},
	}
}

// wantErrors calls all functions with roots and notes, and wants one error of them.
func wantErrors(t *testing.T, name string, roots []string, l []api.SealNote, claim, who string, day int, pods []api.SealPod, code api.Errno) {
	t.Helper()
	chain, e := seal.Chain(roots, l, claim, who, day)
	want(t, name+": Chain", chain, nil, e, code)
	holders, e := seal.Holders(roots, l, claim, day)
	want(t, name+": Holders", holders, nil, e, code)
	needed, e := seal.Needed(roots, l, claim, who, day)
	want(t, name+": Needed", needed, nil, e, code)
	days, e := seal.Days(roots, l, claim, who, day, day)
	want(t, name+": Days", days, nil, e, code)
	wrong, e := seal.Tin(roots, l, claim, pods)
	want(t, name+": Tin", wrong, nil, e, code)
}

// P10.1
func TestNotes(t *testing.T) {
	for name, l := range goodNotes() {
		want(t, name, seal.Check(l), api.OK, 0, 0)
	}
	for name, l := range wrongNotes() {
		want(t, name, seal.Check(l), api.ErrSealNotes, 0, 0)
		wantErrors(t, name, root(), l, "fair", "council", 5, nil, api.ErrSealNotes)
		wantErrors(t, name, nil, l, "fair", "mena", 5, nil, api.ErrSealNotes)
		// What comes behind is wrong, too.
		wantErrors(t, name, root(), l, "", "", -1, make([]api.SealPod, 1), api.ErrSealNotes)
		names, e := seal.Liars(l)
		want(t, name+": Liars", names, nil, e, api.ErrSealNotes)
		s, e := seal.Print(l)
		want(t, name+": Print", s, "", e, api.ErrSealNotes)
		for _, other := range [][]api.SealNote{nil, notes(), many(1, 40), l} {
			m, e := seal.Merge(l, other)
			want(t, name+": Merge", m, nil, e, api.ErrSealNotes)
			m, e = seal.Merge(other, l)
			want(t, name+": Merge with it", m, nil, e, api.ErrSealNotes)
		}
	}
}

// P10.1
func TestRoots(t *testing.T) {
	for name, roots := range map[string][]string{
		"5 roots":       {"a", "b", "c", "d", "e"},
		"the same":      {"council", "council"},
		"the same last": {"a", "b", "council", "a"},
		"no word":       {""},
		"a long word":   {tooLong},
		"a capital":     {"council", "Coop"},
		"a digit first": {"council", "coop", "zo", "1"},
		"wrong bytes":   {"council\x00"},
	} {
		wantErrors(t, name, roots, notes(), "fair", "council", 5, nil, api.ErrSealRoots)
		wantErrors(t, name, roots, notes(), "fair", "council", -1, make([]api.SealPod, 1), api.ErrSealRoots)
		wantErrors(t, name, roots, wrongNotes()["zero"], "fair", "council", 5, nil, api.ErrSealRoots)
		wantErrors(t, name, roots, wrongNotes()["zero"], "", "", -1, make([]api.SealPod, 1), api.ErrSealRoots)
	}
	for _, roots := range [][]string{nil, {}, {"a"}, {long}, {"d", "c", "b", "a"}, {"a-", "a", "a0", "aa"}} {
		got, e := seal.Holders(roots, nil, "fair", 5)
		want(t, "Holders without notes", got, slices.Sorted(slices.Values(roots)), e, api.OK)
	}
}

// P10.1
func TestAsk(t *testing.T) {
	l := notes()
	for _, claim := range []string{"", "Fair", "1", "fair ", tooLong, "fair\n", "-"} {
		wantErrors(t, "the claim "+claim, root(), l, claim, "council", 5, nil, api.ErrSealAsk)
		wantErrors(t, "the claim "+claim, root(), l, claim, "mena", 5, nil, api.ErrSealAsk)
	}
	for _, day := range []int{-1, 30001, lowest, highest} {
		wantErrors(t, "the day "+strconv.Itoa(day), root(), l, "fair", "council", day, []api.SealPod{pod("council", day)}, api.ErrSealAsk)
		wantErrors(t, "the day "+strconv.Itoa(day), root(), l, "fair", "mena", day, []api.SealPod{pod("mena", 40), pod("mena", day)}, api.ErrSealAsk)
	}
	for _, name := range []string{"", "Mena", "1", "mena ", tooLong, "-"} {
		chain, e := seal.Chain(root(), l, "fair", name, 5)
		want(t, "Chain for "+name, chain, nil, e, api.ErrSealAsk)
		needed, e := seal.Needed(root(), l, "fair", name, 5)
		want(t, "Needed for "+name, needed, nil, e, api.ErrSealAsk)
		days, e := seal.Days(root(), l, "fair", name, 5, 6)
		want(t, "Days for "+name, days, nil, e, api.ErrSealAsk)
		wrong, e := seal.Tin(root(), l, "fair", []api.SealPod{pod("mena", 40), pod(name, 40)})
		want(t, "Tin with a pod of "+name, wrong, nil, e, api.ErrSealAsk)
	}
	for _, x := range [][2]int{{-1, 5}, {5, 4}, {1, 0}, {0, 400}, {1, 401}, {0, 30000}, {29601, 30001}, {30000, 30001}, {30001, 30001}, {29999, 29998}, {0, -1}, {-1, -1}, {lowest, highest}, {highest, lowest}, {lowest, lowest}, {highest, highest}, {0, highest}, {lowest, 0}, {1, lowest}} {
		for _, name := range []string{"council", "mena"} {
			days, e := seal.Days(root(), l, "fair", name, x[0], x[1])
			want(t, "Days", days, nil, e, api.ErrSealAsk)
		}
	}
	wrong, e := seal.Tin(root(), l, "fair", slices.Repeat([]api.SealPod{pod("council", 5)}, 65))
	want(t, "Tin of 65 pods", wrong, nil, e, api.ErrSealAsk)
}

// P10.1: what can just be asked.
func TestAskAtTheLimits(t *testing.T) {
	all := []api.SealNote{grant("council", 1000, long, long, 0, 30000, 0)}
	for _, x := range [][2]int{{0, 0}, {0, 399}, {29601, 30000}, {30000, 30000}, {5, 404}} {
		for _, name := range []string{"council", long} {
			days, e := seal.Days(root(), all, long, name, x[0], x[1])
			want(t, "Days", days, []api.Span{span(x[0], x[1])}, e, api.OK)
		}
		for _, day := range x {
			chain, e := seal.Chain(root(), all, long, long, day)
			want(t, "Chain", chain, all, e, api.OK)
			holders, e := seal.Holders(root(), all, long, day)
			want(t, "Holders", holders, []string{long, "council"}, e, api.OK)
			needed, e := seal.Needed(root(), all, long, long, day)
			want(t, "Needed", needed, all, e, api.OK)
			wrong, e := seal.Tin(root(), all, long, slices.Repeat([]api.SealPod{pod(long, day)}, 64))
			want(t, "Tin of 64 pods", wrong, nil, e, api.OK)
		}
	}
	// A name, or a claim, of which no note tells can be asked, too.
	wantChain(t, all, "nobody", 5, nil, api.ErrNone)
	wantDays(t, all, "nobody", 5, 6)
	wrong, e := seal.Tin(nil, nil, "nothing", slices.Repeat([]api.SealPod{pod("a", 0)}, 64))
	if e != api.OK || len(wrong) != 64 || wrong[0] != 0 || wrong[63] != 63 {
		t.Errorf("Tin without roots: %v, %d", wrong, e)
	}
}

// P10.2
func TestMerge(t *testing.T) {
	l := notes()
	turned := notes()
	slices.Reverse(turned)
	for name, x := range map[string]struct {
		a, b, want []api.SealNote
		e          api.Errno
	}{
		"none":             {nil, nil, nil, api.OK},
		"with none":        {l, nil, l, api.OK},
		"turned":           {turned, nil, l, api.OK},
		"itself":           {l, l, l, api.OK},
		"itself turned":    {turned, l, l, api.OK},
		"apart":            {l[:3], l[3:], l, api.OK},
		"one in the other": {[]api.SealNote{l[4], l[2]}, []api.SealNote{l[3], l[1], l[0]}, l, api.OK},
		"some in both":     {l[:4], turned[:4], l, api.OK},
		"twice in one":     {append(notes(), l...), nil, l, api.OK},
		"one 40 times":     {slices.Repeat(l[:1], 40), slices.Repeat(l[1:2], 40), l[:2], api.OK},
		"40":               {many(1, 20), many(21, 20), many(1, 40), api.OK},
		"40 in both":       {many(1, 40), many(1, 40), many(1, 40), api.OK},
		"41":               {many(1, 20), many(21, 21), nil, api.ErrLimit},
		"one too many":     {many(1, 40), many(2, 40), nil, api.ErrLimit},
		"80":               {many(1, 40), many(41, 40), nil, api.ErrLimit},
		"a lie":            {[]api.SealNote{fair("a", 1, "c", 0)}, []api.SealNote{fair("a", 1, "b", 0)}, []api.SealNote{fair("a", 1, "b", 0), fair("a", 1, "c", 0)}, api.OK},
	} {
		m, e := seal.Merge(x.a, x.b)
		want(t, name, m, x.want, e, x.e)
		m, e = seal.Merge(x.b, x.a)
		want(t, name+" the other way", m, x.want, e, x.e)
	}
}

// P10.2: the first field that differs decides.
func TestOrder(t *testing.T) {
	order := []api.SealNote{
		grant("a", 2, "z", "z", 9, 9, 5),
		back("a", 2, 9, 9),
		grant("a", 10, "z", "z", 9, 9, 5),
		grant("a-", 1, "z", "z", 9, 9, 5),
		grant("a0", 1, "z", "z", 9, 9, 5),
		grant("aa", 1, "z", "z", 9, 9, 5),
		grant("b", 1, "a", "z", 9, 9, 5),
		grant("b", 1, "c", "a", 9, 9, 5),
		grant("b", 1, "c", "b", 2, 9, 5),
		grant("b", 1, "c", "b", 10, 10, 5),
		grant("b", 1, "c", "b", 10, 11, 2),
		grant("b", 1, "c", "b", 10, 11, 3),
		grant("b", 1, "c", "b", 10, 100, 0),
		grant("b", 1, "c", "c", 0, 0, 0),
		grant("b", 1, "d", "a", 0, 0, 0),
		back("b", 1, 7, 2),
		back("b", 1, 8, 2),
		back("b", 1, 10, 2),
		back("b", 1, 3, 10),
		grant("b", 2, "a", "a", 0, 0, 0),
		back("c", 1, 1, 0),
	}
	for i, less := range order {
		for _, other := range order[i:] {
			wanted := []api.SealNote{less, other}
			if less == other {
				wanted = wanted[:1]
			}
			m, e := seal.Merge([]api.SealNote{less}, []api.SealNote{other})
			want(t, "Merge", m, wanted, e, api.OK)
			m, e = seal.Merge([]api.SealNote{other, less}, nil)
			want(t, "Merge of one list", m, wanted, e, api.OK)
		}
	}
}

// P10.2
func TestLiars(t *testing.T) {
	wantLiars(t, nil)
	wantLiars(t, slices.Repeat(notes(), 8))
	n := grant("b", 5, "c", "k", 3, 9, 2)
	for _, other := range []api.SealNote{
		grant("b", 5, "d", "k", 3, 9, 2), grant("b", 5, "c", "l", 3, 9, 2), grant("b", 5, "c", "k", 2, 9, 2),
		grant("b", 5, "c", "k", 3, 8, 2), grant("b", 5, "c", "k", 3, 9, 1), back("b", 5, 5, 3),
	} {
		wantLiars(t, []api.SealNote{n, other}, "b")
		wantLiars(t, []api.SealNote{other, fair("a", 1, "b", 0), n, n, other}, "b")
	}
	for _, other := range []api.SealNote{n, grant("b", 6, "d", "k", 3, 9, 2), grant("a", 5, "d", "k", 3, 9, 2), back("c", 5, 5, 3), back("b", 4, 5, 3)} {
		wantLiars(t, []api.SealNote{n, other})
		wantLiars(t, []api.SealNote{other, n, other})
	}
	lie := back("b", 5, 1, 0)
	wantLiars(t, []api.SealNote{lie, back("b", 5, 2, 0)}, "b")
	wantLiars(t, []api.SealNote{lie, back("b", 5, 1, 1)}, "b")
	// Of one who lies more than once, and of several.
	wantLiars(t, []api.SealNote{
		fair("c", 1, "a", 0), fair("a-", 7, "a", 0), fair("b", 1, "a", 0), fair("a", 2, "c", 0), fair("a0", 7, "a", 0),
		fair("c", 1, "b", 0), fair("a-", 7, "b", 0), fair("b", 2, "a", 0), fair("a", 2, "b", 0), fair("a0", 7, "b", 0),
		fair("c", 1, "d", 0), fair("c", 2, "d", 0), fair("c", 2, "e", 0), fair("a", 1, "b", 0), fair("a", 2, "d", 0),
	}, "a", "a-", "a0", "c")
}

// P10.3: the days of a grant, and of what withdraws it.
func TestInForce(t *testing.T) {
	g := grant("council", 3, "a", "fair", 10, 20, 0)
	for name, x := range map[string]struct {
		l    []api.SealNote
		days []api.Span
	}{
		"a grant":              {[]api.SealNote{g}, []api.Span{span(10, 20)}},
		"three times":          {[]api.SealNote{g, g, g}, []api.Span{span(10, 20)}},
		"of one day":           {[]api.SealNote{grant("council", 3, "a", "fair", 15, 15, 0)}, []api.Span{span(15, 15)}},
		"withdrawn":            {[]api.SealNote{g, back("council", 4, 3, 15)}, []api.Span{span(10, 14)}},
		"withdrawn before":     {[]api.SealNote{back("council", 1, 3, 15), g}, []api.Span{span(10, 14)}},
		"withdrawn twice":      {[]api.SealNote{back("council", 1, 3, 15), g, back("council", 2, 3, 13)}, []api.Span{span(10, 12)}},
		"twice turned":         {[]api.SealNote{back("council", 1, 3, 13), g, back("council", 2, 3, 15)}, []api.Span{span(10, 12)}},
		"on its last day":      {[]api.SealNote{g, back("council", 4, 3, 20)}, []api.Span{span(10, 19)}},
		"on the day behind":    {[]api.SealNote{g, back("council", 4, 3, 21)}, []api.Span{span(10, 20)}},
		"on its second day":    {[]api.SealNote{g, back("council", 4, 3, 11)}, []api.Span{span(10, 10)}},
		"on its first day":     {[]api.SealNote{g, back("council", 4, 3, 10)}, nil},
		"from the beginning":   {[]api.SealNote{g, back("council", 4, 3, 0)}, nil},
		"another one":          {[]api.SealNote{g, back("council", 4, 2, 15)}, []api.Span{span(10, 20)}},
		"the one that does":    {[]api.SealNote{g, back("council", 4, 4, 15)}, []api.Span{span(10, 20)}},
		"by another one":       {[]api.SealNote{g, back("a", 3, 3, 15), back("coop", 4, 3, 15)}, []api.Span{span(10, 20)}},
		"a lie":                {[]api.SealNote{g, back("council", 3, 3, 15)}, nil},
		"a lie of others":      {[]api.SealNote{g, back("a", 3, 3, 15), back("a", 3, 3, 16)}, []api.Span{span(10, 20)}},
		"a lie about others":   {[]api.SealNote{g, fair("council", 9, "b", 0), fair("council", 9, "c", 0)}, nil},
		"another claim":        {[]api.SealNote{grant("council", 3, "a", "shade", 10, 20, 0)}, nil},
		"of two claims":        {[]api.SealNote{g, grant("council", 4, "a", "shade", 0, 90, 0)}, []api.Span{span(10, 20)}},
		"granted again":        {[]api.SealNote{g, back("council", 4, 3, 15), grant("council", 5, "a", "fair", 17, 22, 0)}, []api.Span{span(10, 14), span(17, 22)}},
		"again at once":        {[]api.SealNote{g, back("council", 4, 3, 15), grant("council", 5, "a", "fair", 15, 22, 0)}, []api.Span{span(10, 22)}},
		"again a day later":    {[]api.SealNote{g, grant("council", 5, "a", "fair", 22, 22, 0), grant("council", 6, "a", "fair", 24, 25, 0)}, []api.Span{span(10, 20), span(22, 22), span(24, 25)}},
		"just behind":          {[]api.SealNote{g, grant("council", 5, "a", "fair", 21, 25, 0)}, []api.Span{span(10, 25)}},
		"for some time also":   {[]api.SealNote{g, grant("council", 5, "a", "fair", 12, 18, 0)}, []api.Span{span(10, 20)}},
		"withdrawn and handed": {[]api.SealNote{fair("council", 1, "b", 1), back("council", 2, 1, 15), grant("b", 1, "a", "fair", 12, 18, 0)}, []api.Span{span(12, 14)}},
	} {
		days, e := seal.Days(root(), x.l, "fair", "a", 0, 100)
		want(t, name+": Days", days, x.days, e, api.OK)
		var pods []api.SealPod
		var not []int
		for day := range 31 {
			holds := slices.ContainsFunc(x.days, func(s api.Span) bool { return s.Low <= day && day <= s.High })
			chain, e := seal.Chain(root(), x.l, "fair", "a", day)
			if holds != (e == api.OK) || holds != (len(chain) > 0) {
				t.Errorf("%s: Chain on the day %d: %v, %d", name, day, chain, e)
			}
			pods = append(pods, pod("a", day))
			if !holds {
				not = append(not, day)
			}
		}
		wrong, e := seal.Tin(root(), x.l, "fair", pods)
		want(t, name+": Tin", wrong, not, e, api.OK)
	}
}

// chainOf is a list of grants with these depths, from the council to a, b and so on.
func chainOf(depths ...int) []api.SealNote {
	by := "council"
	var l []api.SealNote
	for i, depth := range depths {
		to := string(rune('a' + i))
		l = append(l, fair(by, i+1, to, depth))
		by = to
	}
	return l
}

// P10.3
func TestDepth(t *testing.T) {
	for _, x := range []struct {
		depths []int
		many   int // of those who get the claim
	}{
		{[]int{0}, 1}, {[]int{5}, 1}, {[]int{0, 5}, 1}, {[]int{1, 0}, 2}, {[]int{1, 5, 5}, 2}, {[]int{2, 0, 5}, 2}, {[]int{2, 1, 0}, 3}, {[]int{2, 1, 5, 5}, 3}, {[]int{5, 0, 5, 5}, 2}, {[]int{5, 4, 1, 5, 5}, 4},
		{[]int{5, 4, 3, 2, 1, 0}, 6}, {[]int{5, 5, 5, 5, 5, 5}, 6}, {[]int{5, 5, 5, 5, 5, 5, 5}, 6}, {[]int{4, 5, 5, 5, 5, 5}, 5}, {[]int{5, 3, 5, 5, 5, 5}, 5}, {[]int{5, 4, 2, 5, 5, 5}, 5}, {[]int{5, 4, 3, 1, 5, 5}, 5}, {[]int{5, 4, 3, 2, 0, 5}, 5},
	} {
		l := chainOf(x.depths...)
		names := []string{"council"}
		for i := range l {
			name := string(rune('a' + i))
			if i < x.many {
				names = append(names, name)
				wantChain(t, l, name, 50, l[:i+1], api.OK)
				wantNeeded(t, slices.Concat(l, l), name, 50, inOrder(l[:i+1])...)
				wantDays(t, l, name, 0, 101, span(0, 100))
			} else {
				wantChain(t, l, name, 50, nil, api.ErrNone)
				wantDays(t, l, name, 0, 101)
			}
		}
		wantHolders(t, l, 50, slices.Sorted(slices.Values(names))...)
	}
}

// inOrder are notes in the order of notes.
func inOrder(l []api.SealNote) []api.SealNote {
	l, _ = seal.Merge(l, nil)
	return l
}

// P10.3: a chain that may not be handed on far enough gives way to a longer one that may be.
func TestLongerChains(t *testing.T) {
	short := fair("council", 1, "b", 0)
	long := []api.SealNote{fair("council", 2, "a", 5), fair("a", 1, "b", 5), fair("b", 1, "c", 5)}
	l := append([]api.SealNote{short}, long...)
	wantChain(t, l, "b", 50, []api.SealNote{short}, api.OK)
	wantChain(t, l, "c", 50, long, api.OK)
	wantNeeded(t, l, "b", 50)
	wantNeeded(t, l, "c", 50, long[1], long[2], long[0])
	// Of two grants of the same name the deeper one leads further.
	deep := []api.SealNote{fair("council", 2, "a", 1), fair("a", 1, "b", 0)}
	l = append([]api.SealNote{fair("council", 1, "a", 0)}, deep...)
	wantChain(t, l, "b", 50, deep, api.OK)
	wantChain(t, l, "a", 50, l[:1], api.OK)
	wantNeeded(t, l, "b", 50, deep[1], deep[0])
	wantNeeded(t, l, "a", 50)
}

// P10.3: of several chains, one with the fewest grants, and then the first one.
func TestFirstChain(t *testing.T) {
	roots := []string{"zo", "council", "mo"}
	for name, x := range map[string]struct {
		l    []api.SealNote
		want []api.SealNote
	}{
		"the shorter one":    {[]api.SealNote{fair("council", 1, "a", 1), fair("a", 1, "x", 0), fair("zo", 9, "x", 0)}, []api.SealNote{fair("zo", 9, "x", 0)}},
		"the first root":     {[]api.SealNote{fair("zo", 1, "x", 0), fair("mo", 2, "x", 0), fair("council", 3, "x", 0)}, []api.SealNote{fair("council", 3, "x", 0)}},
		"the least number":   {[]api.SealNote{fair("mo", 10, "x", 0), fair("mo", 9, "x", 5), fair("zo", 1, "x", 0)}, []api.SealNote{fair("mo", 9, "x", 5)}},
		"the first decides":  {[]api.SealNote{fair("mo", 1, "b", 1), fair("mo", 2, "a", 1), fair("a", 1, "x", 0), fair("b", 2, "x", 0)}, []api.SealNote{fair("mo", 1, "b", 1), fair("b", 2, "x", 0)}},
		"then the second":    {[]api.SealNote{fair("mo", 1, "b", 1), fair("b", 2, "x", 0), fair("b", 1, "x", 0)}, []api.SealNote{fair("mo", 1, "b", 1), fair("b", 1, "x", 0)}},
		"the first that may": {[]api.SealNote{fair("mo", 1, "b", 0), fair("mo", 2, "b", 1), fair("b", 1, "x", 0)}, []api.SealNote{fair("mo", 2, "b", 1), fair("b", 1, "x", 0)}},
		"not over a root":    {[]api.SealNote{fair("council", 1, "mo", 5), fair("mo", 1, "x", 0)}, []api.SealNote{fair("mo", 1, "x", 0)}},
		"not in a ring":      {[]api.SealNote{fair("council", 1, "a", 5), fair("a", 1, "b", 5), fair("b", 1, "a", 5), fair("a", 2, "x", 0)}, []api.SealNote{fair("council", 1, "a", 5), fair("a", 2, "x", 0)}},
	} {
		chain, e := seal.Chain(roots, x.l, "fair", "x", 50)
		want(t, name, chain, x.want, e, api.OK)
		slices.Reverse(x.l)
		chain, e = seal.Chain(roots, x.l, "fair", "x", 50)
		want(t, name+", turned", chain, x.want, e, api.OK)
	}
	// A grant that leads nowhere comes first on each of the days.
	l := []api.SealNote{grant("council", 1, "a", "fair", 0, 49, 1), fair("council", 2, "b", 1), fair("a", 1, "x", 0), fair("b", 1, "x", 0)}
	wantChain(t, l, "x", 49, []api.SealNote{l[0], l[2]}, api.OK)
	wantChain(t, l, "x", 50, []api.SealNote{l[1], l[3]}, api.OK)
}

// P10.3, P10.5: a root holds all claims on all days, also one that lies, and without any grant.
func TestRootsHold(t *testing.T) {
	lie := []api.SealNote{fair("council", 1, "a", 0), fair("council", 1, "b", 0), fair("x", 1, "council", 0)}
	for _, l := range [][]api.SealNote{nil, notes(), lie, chainOf(5, 5, 5)} {
		for _, day := range []int{0, 50, 30000} {
			wantChain(t, l, "council", day, nil, api.OK)
			wantNeeded(t, l, "council", day)
		}
		wantDays(t, l, "council", 7, 300, span(7, 300))
		wrong, e := seal.Tin([]string{"zo", "council"}, l, "nothing", []api.SealPod{pod("council", 0), pod("zo", 30000)})
		want(t, "Tin of the roots", wrong, nil, e, api.OK)
	}
	wantHolders(t, lie, 5, "council")
	holders, e := seal.Holders(nil, notes(), "fair", 30)
	want(t, "Holders without roots", holders, nil, e, api.OK)
	chain, e := seal.Chain(nil, notes(), "fair", "council", 30)
	want(t, "Chain without roots", chain, nil, e, api.ErrNone)
	needed, e := seal.Needed(nil, notes(), "fair", "council", 30)
	want(t, "Needed without roots", needed, nil, e, api.ErrNone)
}

// P10.3: each holder once, byte by byte.
func TestHolders(t *testing.T) {
	l := []api.SealNote{
		fair("council", 1, "b", 1), fair("council", 2, "b", 0), fair("council", 3, "a0", 5), fair("council", 4, "aa", 0), fair("council", 5, "a", 1), fair("council", 6, "a-", 0),
		fair("b", 1, "council", 0), fair("a", 1, "b", 0), fair("a0", 1, "c", 0), grant("a0", 2, "d", "shade", 0, 100, 5), grant("a0", 3, "e", "fair", 51, 100, 5),
	}
	wantHolders(t, l, 50, "a", "a-", "a0", "aa", "b", "c", "council")
	wantHolders(t, l, 51, "a", "a-", "a0", "aa", "b", "c", "council", "e")
	wantHolders(t, l, 101, "council")
	holders, e := seal.Holders([]string{"zo", "council"}, l, "shade", 50)
	want(t, "Holders of shade", holders, []string{"council", "zo"}, e, api.OK)
	holders, e = seal.Holders([]string{"zo", "a0", "b"}, l, "shade", 50)
	want(t, "Holders of shade, with the root a0", holders, []string{"a0", "b", "d", "zo"}, e, api.OK)
	holders, e = seal.Holders([]string{"b", "a"}, l, "fair", 50)
	want(t, "Holders with roots in a chain", holders, []string{"a", "b", "council"}, e, api.OK)
}

// P10.4
func TestNeeded(t *testing.T) {
	ab, ac, bx, cx, xy := fair("council", 1, "b", 2), fair("council", 2, "c", 2), fair("b", 1, "x", 1), fair("c", 1, "x", 1), fair("x", 1, "y", 0)
	both := []api.SealNote{xy, cx, bx, ac, ab}
	wantNeeded(t, both, "y", 50, xy)
	wantNeeded(t, both, "x", 50)
	wantNeeded(t, both[:4], "y", 50, cx, ac, xy)
	wantNeeded(t, append(both, both...), "y", 50, xy)
	wantNeeded(t, slices.Repeat(both[:4], 3), "y", 50, cx, ac, xy)
	// Another way counts only if it is one on this day, and of this claim.
	with := func(l ...api.SealNote) []api.SealNote { return append(l, xy, cx, ac, ab) }
	wantNeeded(t, with(), "y", 50, cx, ac, xy)
	wantNeeded(t, with(grant("b", 1, "x", "fair", 0, 49, 1)), "y", 50, cx, ac, xy)
	wantNeeded(t, with(grant("b", 1, "x", "fair", 0, 50, 1)), "y", 50, xy)
	wantNeeded(t, with(grant("b", 1, "x", "shade", 0, 100, 1)), "y", 50, cx, ac, xy)
	wantNeeded(t, with(grant("b", 1, "x", "fair", 0, 100, 0)), "y", 50, cx, ac, xy)
	// A note that withdraws is not needed, as it is no grant.
	wantNeeded(t, with(bx, back("b", 2, 1, 50)), "y", 50, cx, ac, xy)
	wantNeeded(t, with(bx, back("b", 2, 1, 51)), "y", 50, xy)
	for _, name := range []string{"z", "b"} {
		needed, e := seal.Needed(root(), both[:4], "fair", name, 50)
		want(t, "Needed for "+name, needed, nil, e, api.ErrNone)
	}
	needed, e := seal.Needed(root(), both, "shade", "x", 50)
	want(t, "Needed for shade", needed, nil, e, api.ErrNone)
	needed, e = seal.Needed(root(), both, "fair", "x", 101)
	want(t, "Needed a day later", needed, nil, e, api.ErrNone)
}

// P10.4: without a note, its writer can be no liar any more.
func TestNeededWithLiars(t *testing.T) {
	lie := fair("b", 1, "z", 0)
	l := []api.SealNote{fair("council", 1, "b", 1), fair("council", 2, "x", 0), fair("b", 1, "x", 0), lie}
	wantLiars(t, l, "b")
	wantNeeded(t, l, "x", 50, l[1])
	wantNeeded(t, l[:3], "x", 50)
	// What b withdraws does not count while b lies.
	l = append(l, back("b", 2, 1, 0))
	wantNeeded(t, l, "x", 50, l[1])
	wantNeeded(t, append(slices.Clone(l[:3]), l[4]), "x", 50, l[1])
}

// P10.5
func TestDays(t *testing.T) {
	l := []api.SealNote{
		grant("council", 1, "a", "fair", 100, 600, 1), grant("a", 1, "b", "fair", 90, 120, 0), grant("a", 2, "b", "fair", 121, 130, 0), grant("a", 3, "b", "fair", 132, 132, 0),
		grant("council", 2, "c", "fair", 498, 700, 1), grant("c", 1, "b", "fair", 0, 30000, 0), back("c", 2, 1, 602),
	}
	wantDays(t, l, "b", 0, 399, span(100, 130), span(132, 132))
	wantDays(t, l, "b", 100, 499, span(100, 130), span(132, 132), span(498, 499))
	wantDays(t, l, "b", 400, 799, span(498, 601))
	wantDays(t, l, "b", 120, 132, span(120, 130), span(132, 132))
	wantDays(t, l, "b", 131, 131)
	wantDays(t, l, "b", 132, 132, span(132, 132))
	wantDays(t, l, "b", 133, 497)
	wantDays(t, l, "b", 602, 602)
	wantDays(t, l, "a", 99, 101, span(100, 101))
	wantDays(t, l, "a", 300, 699, span(300, 600))
	wantDays(t, l, "nobody", 300, 699)
	// The grants change on each of the days.
	var pieces []api.SealNote
	var spans []api.Span
	for i := range 40 {
		pieces = append(pieces, grant("council", i+1, "a", "fair", 10*i, 10*i+i%10, 0))
		if i%10 == 0 && i > 0 {
			spans[len(spans)-1].High = 10 * i // the piece before it ends on the day before
		} else {
			spans = append(spans, span(10*i, 10*i+i%10))
		}
	}
	wantDays(t, pieces, "a", 0, 399, spans...)
}

// P10.5
func TestTin(t *testing.T) {
	l := notes()
	for name, x := range map[string]struct {
		pods []api.SealPod
		want []int
	}{
		"no pods":       {nil, nil},
		"empty":         {[]api.SealPod{}, nil},
		"all":           {[]api.SealPod{pod("mena", 10), pod("mena", 49), pod("zo", 60), pod("coop", 0), pod("coop", 100), pod("council", 30000)}, nil},
		"none":          {[]api.SealPod{pod("mena", 9), pod("mena", 50), pod("zo", 19), pod("zo", 61), pod("coop", 101), pod("ka", 40), pod("lu", 40)}, []int{0, 1, 2, 3, 4, 5, 6}},
		"some":          {[]api.SealPod{pod("ka", 40), pod("mena", 40), pod("ka", 40), pod("zo", 40), pod("zo", 70)}, []int{0, 2, 4}},
		"the same pods": {[]api.SealPod{pod("mena", 50), pod("mena", 40), pod("mena", 50)}, []int{0, 2}},
	} {
		wrong, e := seal.Tin(root(), l, "fair", x.pods)
		want(t, name, wrong, x.want, e, api.OK)
	}
	wrong, e := seal.Tin(root(), l, "shade", []api.SealPod{pod("mena", 40), pod("council", 40)})
	want(t, "another claim", wrong, []int{0}, e, api.OK)
}

// P10.6, P10.11
func TestTexts(t *testing.T) {
	turned := notes()
	slices.Reverse(turned)
	for _, l := range [][]api.SealNote{notes(), turned, slices.Repeat(turned, 8), append(notes(), turned...)} {
		s, e := seal.Print(l)
		want(t, "Print", s, text, e, api.OK)
	}
	l, e := seal.Parse(text)
	want(t, "Parse", l, notes(), e, api.OK)
	l, e = seal.Parse("")
	want(t, "Parse of an empty text", l, nil, e, api.OK)
	for name, notes := range goodNotes() {
		s, e := seal.Print(notes)
		if e != api.OK {
			t.Errorf("%s: Print: %d", name, e)
		}
		l, e := seal.Parse(s)
		want(t, name, l, inOrder(notes), e, api.OK)
	}
	for name, s := range map[string]string{
		"none":          "",
		"least":         "grant a 1 b c 0 0 0\n",
		"greatest":      "grant abcdefghijklmnop 1000 z-------------99 abcdefghijklmnop 30000 30000 5\n",
		"least back":    "back a 1 1 0\n",
		"greatest back": "back abcdefghijklmnop 1000 1000 30000\n",
		"a lie":         "grant a 1 b fair 0 100 0\nback a 1 1 0\n",
	} {
		got, e := seal.Print(goodNotes()[name])
		want(t, "Print of "+name, got, s, e, api.OK)
	}
	// The words of the kinds, as words of notes.
	words := []api.SealNote{grant("back", 1, "grant", "back", 1, 2, 3), back("grant", 4, 5, 6)}
	s, e := seal.Print(words)
	want(t, "Print", s, "grant back 1 grant back 1 2 3\nback grant 4 5 6\n", e, api.OK)
	l, e = seal.Parse(s)
	want(t, "Parse", l, words, e, api.OK)
}

// P10.6
func TestWrongTexts(t *testing.T) {
	g, b := "grant coop 2 zo fair 20 60 0\n", "back coop 3 1 50\n"
	texts := []string{
		"\n", " ", " \n", "\x00", "grant", "grant\n", "grant \n", "back", "back\n", "back \n", "seal\n",
		"grant coop 2 zo fair 20 60\n", "grant coop 2 zo fair 20 60 \n", "grant coop 2 zo fair 20 60 0 0\n", "grant coop 2 zo fair 20 60 0 \n", "grant coop 2 zo fair 20 60 0",
		"back coop 3 1\n", "back coop 3 1 \n", "back coop 3 1 50 0\n", "back coop 3 1 50 \n", "back coop 3 1 50", "back coop 3 1 50 fair 20 60 0\n", "grant coop 3 1 50\n",
		"Grant coop 2 zo fair 20 60 0\n", "grants coop 2 zo fair 20 60 0\n", "1 coop 2 zo fair 20 60 0\n", "coop 2 zo fair 20 60 0\n", "back coop 2 zo fair 20 60 0\n", "Back coop 3 1 50\n", "2 coop 3 1 50\n", " coop 3 1 50\n",
		" " + g, "grant  coop 2 zo fair 20 60 0\n", "grant coop  2 zo fair 20 60 0\n", "grant coop 2  zo fair 20 60 0\n", "grant coop 2 zo  fair 20 60 0\n", "grant coop 2 zo fair  20 60 0\n", "grant coop 2 zo fair 20  60 0\n", "grant coop 2 zo fair 20 60  0\n", "grant\tcoop 2 zo fair 20 60 0\n",
		" " + b, "back  coop 3 1 50\n", "back coop 3 1  50\n", "back\tcoop 3 1 50\n", "back coop 3 1 50\r\n", "grant coop 2 zo fair 20 60 0\r\n",
		"grant Coop 2 zo fair 20 60 0\n", "grant 1 2 zo fair 20 60 0\n", "grant " + tooLong + " 2 zo fair 20 60 0\n", "grant coop 2 Zo fair 20 60 0\n", "grant coop 2 zo Fair 20 60 0\n", "grant coop 2 coop fair 20 60 0\n", "grant coop 2  fair 20 60 0\n", "back Coop 3 1 50\n",
		"grant coop 0 zo fair 20 60 0\n", "grant coop -2 zo fair 20 60 0\n", "grant coop 1001 zo fair 20 60 0\n", "grant coop 02 zo fair 20 60 0\n", "grant coop +2 zo fair 20 60 0\n", "grant coop x zo fair 20 60 0\n", "grant coop 2.0 zo fair 20 60 0\n", "grant coop 0x2 zo fair 20 60 0\n", "grant coop 18446744073709551618 zo fair 20 60 0\n",
		"grant coop 2 zo fair 020 60 0\n", "grant coop 2 zo fair +20 60 0\n", "grant coop 2 zo fair -20 60 0\n", "grant coop 2 zo fair x 60 0\n", "grant coop 2 zo fair 20 060 0\n", "grant coop 2 zo fair 20 +60 0\n", "grant coop 2 zo fair 20 19 0\n", "grant coop 2 zo fair 20 30001 0\n", "grant coop 2 zo fair 20 x 0\n", "grant coop 2 zo fair 30001 30001 0\n",
		"grant coop 2 zo fair 20 60 00\n", "grant coop 2 zo fair 20 60 -0\n", "grant coop 2 zo fair 20 60 +0\n", "grant coop 2 zo fair 20 60 6\n", "grant coop 2 zo fair 20 60 -1\n", "grant coop 2 zo fair 20 60 x\n", "grant coop 2 zo fair 20 60 1_0\n",
		"back coop 0 1 50\n", "back coop 1001 1 50\n", "back coop 03 1 50\n", "back coop 3 0 50\n", "back coop 3 1001 50\n", "back coop 3 01 50\n", "back coop 3 +1 50\n", "back coop 3 1 050\n", "back coop 3 1 -0\n", "back coop 3 1 -1\n", "back coop 3 1 30001\n", "back coop 3 1 x\n", "back coop x 1 50\n", "back coop 3 x 50\n",
		b + g, g + g, b + b, g + b + g, g + "\n" + b, "\n" + g, g + "\n", g + " ", g + b + "\n", g + "back coop 3 1 50", text + text,
		"back coop 2 1 50\n" + g, "grant b 1 c k 0 5 0\ngrant a 1 c k 0 5 0\n", "grant a 10 c k 0 5 0\ngrant a 9 c k 0 5 0\n", "grant a 1 c k 0 5 1\ngrant a 1 c k 0 5 0\n",
		strings.Repeat("a", api.MaxFile), strings.Repeat(" ", api.MaxFile), strings.Repeat("\n", api.MaxFile), strings.Repeat(g, api.MaxFile/len(g)),
		lines(41),
	}
	for _, s := range texts {
		l, e := seal.Parse(s)
		want(t, "Parse of "+strconv.Quote(s[:min(len(s), 60)]), l, nil, e, api.ErrForm)
	}
	for _, s := range []string{strings.Repeat("a", api.MaxFile+1), strings.Repeat(g, api.MaxFile)} {
		l, e := seal.Parse(s)
		want(t, "Parse of a long text", l, nil, e, api.ErrLimit)
	}
	l, e := seal.Parse(lines(40))
	want(t, "Parse of 40 lines", l, many(1, 40), e, api.OK)
}

// lines is a text of so many notes.
func lines(many int) string {
	var b strings.Builder
	for i := range many {
		b.WriteString("grant council " + strconv.Itoa(i+1) + " coop fair 0 100 0\n")
	}
	return b.String()
}

// calls are those whose results are lists, with some arguments.
func calls(roots []string, l []api.SealNote, pods []api.SealPod) map[string]func() any {
	return map[string]func() any{
		"Merge":           func() any { r, _ := seal.Merge(l, l[:2]); return r },
		"Merge with none": func() any { r, _ := seal.Merge(nil, l); return r },
		"Liars": func() any {
			r, _ := seal.Liars(append(slices.Clone(l), fair("coop", 1, "x", 0), fair("mena", 1, "x", 0)))
			return r
		},
		"Chain":   func() any { r, _ := seal.Chain(roots, l, "fair", "mena", 40); return r },
		"Holders": func() any { r, _ := seal.Holders(roots, l, "fair", 30); return r },
		"roots":   func() any { r, _ := seal.Holders(roots, nil, "fair", 30); return r },
		"Needed":  func() any { r, _ := seal.Needed(roots, l, "fair", "mena", 40); return r },
		"Days":    func() any { r, _ := seal.Days(roots, l, "fair", "mena", 0, 100); return r },
		"Tin":     func() any { r, _ := seal.Tin(roots, l, "fair", pods); return r },
		"Parse":   func() any { r, _ := seal.Parse(text); return r },
	}
}

// copyOf is a list with the same elements.
func copyOf(l any) any {
	v := reflect.ValueOf(l)
	c := reflect.MakeSlice(v.Type(), v.Len(), v.Len())
	reflect.Copy(c, v)
	return c.Interface()
}

// spoil changes the elements of a list, and what lies behind it.
func spoil(l any) {
	v := reflect.ValueOf(l)
	v = v.Slice(0, v.Cap())
	for i := range v.Len() {
		v.Index(i).SetZero()
	}
}

// P10.7, P2: arguments stay as they are, and a result that is changed changes no other one.
func TestMemory(t *testing.T) {
	turned := notes()
	slices.Reverse(turned)
	roots, l, pods := []string{"council", "bo"}, slices.Clone(turned), []api.SealPod{pod("mena", 50), pod("mena", 40)}
	for name, call := range calls(roots, l, pods) {
		first := call()
		kept := copyOf(first)
		if reflect.ValueOf(first).Len() == 0 {
			t.Errorf("%s: nothing", name)
		}
		spoil(first)
		if again := call(); !reflect.DeepEqual(again, kept) {
			t.Errorf("%s: %v, and then %v", name, kept, again)
		}
	}
	seal.Check(l)
	seal.Print(l)
	if !slices.Equal(roots, []string{"council", "bo"}) || !slices.Equal(l, turned) || !slices.Equal(pods, []api.SealPod{pod("mena", 50), pod("mena", 40)}) {
		t.Errorf("arguments changed: %v, %v, %v", roots, l, pods)
	}
}

// P10.7: nothing of an argument is kept, nor written behind it.
func TestNothingIsRetained(t *testing.T) {
	roots := append(make([]string, 0, 8), "council", "bo")
	l := append(make([]api.SealNote, 0, 80), notes()...)
	pods := append(make([]api.SealPod, 0, 64), pod("mena", 50))
	results, kept := map[string]any{}, map[string]any{}
	for name, call := range calls(roots, l, pods) {
		results[name] = call()
		kept[name] = copyOf(results[name])
	}
	seal.Print(l)
	for i, s := range roots[:8] {
		if i >= 2 && s != "" {
			t.Error("something was written behind roots")
		}
	}
	for i, n := range l[:80] {
		if i >= 5 && n != (api.SealNote{}) {
			t.Error("something was written behind notes")
		}
	}
	clear(roots)
	clear(l)
	clear(pods)
	if !reflect.DeepEqual(results, kept) {
		t.Errorf("results changed from %v to %v", kept, results)
	}
}

// P1, P10.1: no function panics, whatever the arguments are, and the errors are in their order.
func TestAnyArguments(t *testing.T) {
	r := rand.New(rand.NewPCG(10, 100))
	n := func() int {
		return []int{lowest, -1, 0, 1, 2, 3, 5, 6, 40, 399, 400, 1000, 1001, 29999, 30000, 30001, highest - 1, highest}[r.IntN(18)]
	}
	w := func() string {
		return []string{"", "a", "mena", "coop", "council", "fair", "\x00", "A", "-", "é", tooLong}[r.IntN(11)]
	}
	for range 20000 {
		roots, l := root(), notes()
		if r.IntN(2) == 0 {
			roots = append(roots, w())
		}
		if r.IntN(2) == 0 {
			l[r.IntN(5)] = api.SealNote{Kind: n(), By: w(), Seq: n(), To: w(), Claim: w(), From: n(), Until: n(), Depth: n(), Of: n()}
		}
		bad := seal.Check(l)
		_, e := seal.Holders(roots, nil, "fair", 0)
		if e != api.OK {
			bad = e
		}
		claim, name, day := w(), w(), n()
		if bad != api.OK {
			wantErrors(t, "any", roots, l, claim, name, day, []api.SealPod{pod(w(), n())}, bad)
		}
		holders, e := seal.Holders(roots, l, claim, day)
		chain, code := seal.Chain(roots, l, claim, name, day)
		if e == api.OK && (code == api.OK) != slices.Contains(holders, name) || code != api.OK && chain != nil {
			t.Errorf("Chain for %q: %v, %d", name, chain, code)
		}
		needed, e := seal.Needed(roots, l, claim, name, day)
		if e != code || e != api.OK && needed != nil {
			t.Errorf("Needed for %q: %v, %d", name, needed, e)
		}
		if days, e := seal.Days(roots, l, claim, name, day, n()); e != api.OK && days != nil {
			t.Errorf("Days: %v, %d", days, e)
		}
		if wrong, e := seal.Tin(roots, l, claim, []api.SealPod{pod(name, day)}); e != api.OK && wrong != nil {
			t.Errorf("Tin: %v, %d", wrong, e)
		}
		seal.Merge(l, notes())
		seal.Liars(l)
		seal.Print(l)
		seal.Parse(strings.Join([]string{w(), w(), strconv.Itoa(n()), w(), strconv.Itoa(n())}, " ") + "\n")
	}
}
