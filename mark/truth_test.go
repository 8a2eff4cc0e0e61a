package mark_test

// The properties, and what is said of all readings, marks and notes, against a calculation that follows the document's words.

import (
	"math/bits"
	"math/rand/v2"
	"slices"
	"strconv"
	"testing"

	"rostellum/api"
	"rostellum/mark"
)

// canBe reports whether a reading can be of a mark, dot by dot.
func canBe(r api.Register, reading, m int) bool {
	closed := 0
	for dot := range r.Dots {
		in, of := reading>>dot&1 == 1, m>>dot&1 == 1
		if in && !of {
			return false
		}
		if of && !in {
			closed++
		}
	}
	return reading < 1<<r.Dots && closed <= r.Lost
}

// clash reports whether some reading can be of both marks.
func clash(r api.Register, a, b int) bool {
	for reading := range 1 << r.Dots {
		if canBe(r, reading, a) && canBe(r, reading, b) {
			return true
		}
	}
	return false
}

// someRegister returns a register whose marks have enough dots; they may clash.
func someRegister(r *rand.Rand) api.Register {
	g := api.Register{Dots: 1 + r.IntN(6), Lost: r.IntN(4)}
	var marks []int
	for m := range 1 << g.Dots {
		if bits.OnesCount(uint(m)) > g.Lost {
			marks = append(marks, m)
		}
	}
	if len(marks) == 0 {
		return g
	}
	for i := range r.IntN(6) {
		g.Growers = append(g.Growers, api.Grower{Name: "g" + strconv.Itoa(i), Mark: marks[r.IntN(len(marks))]})
	}
	return g
}

// P5.1, P5.2, P5.7
func TestAllReadings(t *testing.T) {
	r := rand.New(rand.NewPCG(1, 5))
	clashes, fresh := map[bool]int{}, map[api.Errno]int{}
	for range 4000 {
		g := someRegister(r)
		code := api.OK
		for i, a := range g.Growers {
			for _, b := range g.Growers[:i] {
				if clash(g, a.Mark, b.Mark) {
					code = api.ErrMarkClash
				}
			}
		}
		want(t, "Check", mark.Check(g), code, 0, 0)
		clashes[code == api.OK && len(g.Growers) > 1]++
		if code != api.OK {
			continue
		}
		for reading := range 1 << g.Dots {
			index, code := 0, api.ErrNone
			for i, x := range g.Growers {
				if canBe(g, reading, x.Mark) {
					index, code = i, api.OK
				}
			}
			n, e := mark.Read(g, reading)
			want(t, "Read", n, index, e, code)
		}
		m, e := mark.Fresh(g)
		best, found := 0, api.ErrNone
		for x := range 1 << g.Dots {
			free := !slices.ContainsFunc(g.Growers, func(y api.Grower) bool { return clash(g, x, y.Mark) })
			if found != api.OK && free && bits.OnesCount(uint(x)) > g.Lost {
				best, found = x, api.OK
			}
		}
		fresh[found]++
		want(t, "Fresh", m, best, e, found)
		if t.Failed() {
			t.Fatalf("with %v", g)
		}
	}
	if clashes[true] == 0 || clashes[false] == 0 || fresh[api.OK] == 0 || fresh[api.ErrNone] == 0 {
		t.Errorf("not all kinds of registers: %v, %v", clashes, fresh)
	}
}

// P5.7: whichever dots close, at most Lost of them, what is left is read as the mark; also in the largest frame.
func TestClosedDots(t *testing.T) {
	for lost := range 4 {
		g := api.Register{Dots: 12, Lost: lost}
		for m, e := mark.Fresh(g); e == api.OK; m, e = mark.Fresh(g) {
			g.Growers = append(g.Growers, api.Grower{Name: "g" + strconv.Itoa(len(g.Growers)), Mark: m})
		}
		read := 0
		for i, x := range g.Growers {
			for closed := range 1 << 12 {
				if closed&^x.Mark == 0 && bits.OnesCount(uint(closed)) <= lost {
					n, e := mark.Read(g, x.Mark&^closed)
					want(t, "Read", n, i, e, api.OK)
					read++
				}
			}
		}
		if len(g.Growers) < 2 || read < len(g.Growers) {
			t.Errorf("%d lost: %d growers", lost, len(g.Growers))
		}
	}
}

// someBook returns a book of few pods, names and days, so that many of its notes count.
func someBook(r *rand.Rand) []api.MarkNote {
	var l []api.MarkNote
	for id := range 16 {
		if r.IntN(3) == 0 {
			continue
		}
		n := api.MarkNote{Id: id + 1, Kind: 1 + r.IntN(4), Pod: []string{"p", "q"}[r.IntN(2)], Who: []string{"mo", "mo", "lu", "ka"}[r.IntN(4)], Day: r.IntN(4)}
		if r.IntN(3) == 0 {
			n.Kind = min(4, 1+n.Day)
		}
		if n.Kind == api.NoteSell {
			n.Read, n.Buyer = []int{0, 1, 2, 3, 7, 12, 20, 28, 4095}[r.IntN(9)], []string{"ka", "la"}[r.IntN(2)]
		}
		l = append(l, n)
	}
	return l
}

// play follows the notes by the document's words: day by day, and on each day Id by Id.
func play(g api.Register, l []api.MarkNote) (fates []api.Fate, void []int) {
	at := map[string]api.Fate{}
	for day := range 4 {
		for _, n := range l {
			if n.Day != day {
				continue
			}
			f := at[n.Pod]
			f.Pod = n.Pod
			i := slices.IndexFunc(g.Growers, func(x api.Grower) bool { return x.Name == n.Who })
			own := f.Owner != "" && f.Owner == n.Who
			switch {
			case n.Kind == 1 && f.State == 0 && i >= 0:
				f.State, f.Owner, f.Prick = 1, n.Who, n.Id
			case n.Kind == 2 && f.State == 1 && own:
				f.State, f.Cut = 2, n.Id
			case n.Kind == 3 && f.State == 2 && own && canBe(g, n.Read, g.Growers[i].Mark):
				f.State, f.Sell = 3, n.Id
			case n.Kind == 4 && (f.State == 1 || f.State == 2) && own:
				f.State, f.Gone = 4, n.Id
			default:
				void = append(void, n.Id)
			}
			at[n.Pod] = f
		}
	}
	for _, pod := range []string{"p", "q"} {
		if f, ok := at[pod]; ok {
			fates = append(fates, f)
		}
	}
	slices.Sort(void)
	return fates, void
}

// P5.4, P5.9, P5.10
func TestSomeBooks(t *testing.T) {
	r := rand.New(rand.NewPCG(2, 5))
	states := map[int]int{}
	for range 20000 {
		l := someBook(r)
		fates, void := play(register(), l)
		got, e := mark.Fates(register(), l)
		want(t, "Fates", got, fates, e, api.OK)
		ids, e := mark.Void(register(), l)
		want(t, "Void", ids, void, e, api.OK)
		wantOneSale(t, l, got)
		all := slices.Clone(ids)
		for _, f := range got {
			states[f.State]++
			for _, id := range []int{f.Prick, f.Cut, f.Sell, f.Gone} {
				if id != 0 {
					all = append(all, id)
				}
			}
		}
		slices.Sort(all)
		var wanted []int
		for _, n := range l {
			wanted = append(wanted, n.Id)
		}
		want(t, "all Ids", all, wanted, 0, 0)
		if t.Failed() {
			t.Fatalf("with %v", l)
		}
	}
	for state := range 5 {
		if states[state] == 0 {
			t.Errorf("no pod of the state %d", state)
		}
	}
}

// wantOneSale says what is wrong with the sales that count.
func wantOneSale(t *testing.T, l []api.MarkNote, fates []api.Fate) {
	t.Helper()
	note := map[int]api.MarkNote{}
	for _, n := range l {
		note[n.Id] = n
	}
	for _, f := range fates {
		if f.Sell == 0 {
			continue
		}
		prick, cut, sale := note[f.Prick], note[f.Cut], note[f.Sell]
		marks := map[string]int{"mo": 3, "lu": 28}
		switch {
		case f.Gone != 0 || f.State != api.PodSold:
			t.Errorf("a sale of a pod that is not sold: %v", f)
		case prick.Kind != api.NotePrick || cut.Kind != api.NoteCut || sale.Kind != api.NoteSell:
			t.Errorf("notes of other kinds: %v", f)
		case prick.Who != f.Owner || sale.Who != f.Owner || !canBe(register(), sale.Read, marks[f.Owner]):
			t.Errorf("a sale by another one: %v", f)
		}
	}
}

// P5.3, P5.8
func TestAnyOrder(t *testing.T) {
	r := rand.New(rand.NewPCG(3, 5))
	merge := func(a, b []api.MarkNote) []api.MarkNote {
		l, e := mark.Merge(a, b)
		if e != api.OK {
			t.Fatalf("Merge of %v and %v: %d", a, b, e)
		}
		return l
	}
	for range 5000 {
		a, b, c := someBook(r), someBook(r), someBook(r)
		ab := merge(a, b)
		want(t, "two books", ab, lesser(a, b), 0, 0)
		want(t, "turned", merge(b, a), ab, 0, 0)
		want(t, "three books", merge(merge(b, c), a), merge(ab, c), 0, 0)
		want(t, "itself", merge(a, a), a, 0, 0)
		want(t, "once more", merge(ab, a), ab, 0, 0)
		want(t, "CheckNotes", mark.CheckNotes(ab), api.OK, 0, 0)
		var alone []api.MarkNote
		for _, i := range r.Perm(len(ab)) {
			alone = merge(ab[i:i+1], alone)
		}
		want(t, "note by note", alone, ab, 0, 0)
		if t.Failed() {
			t.Fatalf("with %v, %v, %v", a, b, c)
		}
	}
}

// lesser returns two books together, Id by Id.
func lesser(a, b []api.MarkNote) []api.MarkNote {
	var l []api.MarkNote
	for id := range 17 {
		i := slices.IndexFunc(a, func(n api.MarkNote) bool { return n.Id == id })
		k := slices.IndexFunc(b, func(n api.MarkNote) bool { return n.Id == id })
		switch {
		case i >= 0 && (k < 0 || !isLess(b[k], a[i])):
			l = append(l, a[i])
		case k >= 0:
			l = append(l, b[k])
		}
	}
	return l
}

func isLess(a, b api.MarkNote) bool {
	switch {
	case a.Kind != b.Kind:
		return a.Kind < b.Kind
	case a.Pod != b.Pod:
		return a.Pod < b.Pod
	case a.Who != b.Who:
		return a.Who < b.Who
	case a.Day != b.Day:
		return a.Day < b.Day
	case a.Read != b.Read:
		return a.Read < b.Read
	}
	return a.Buyer < b.Buyer
}

// P5.11: whatever is parsed is printed as it was.
func TestChangedTexts(t *testing.T) {
	r := rand.New(rand.NewPCG(4, 5))
	signs, parsed := "notepsl ka-0129\nA+", 0
	for range 20000 {
		b := []byte(text)
		for range 1 + r.IntN(2) {
			i, c := r.IntN(len(b)), signs[r.IntN(len(signs))]
			switch r.IntN(3) {
			case 0:
				b[i] = c
			case 1:
				b = slices.Insert(b, i, c)
			default:
				b = slices.Delete(b, i, i+1)
			}
		}
		l, e := mark.Parse(string(b))
		if e != api.OK {
			want(t, string(b), l, nil, e, api.ErrForm)
			continue
		}
		parsed++
		s, e := mark.Print(l)
		want(t, "Print of what was parsed", s, string(b), e, api.OK)
	}
	for range 2000 {
		l := someBook(r)
		s, e := mark.Print(l)
		want(t, "Print", e, api.OK, 0, 0)
		got, e := mark.Parse(s)
		want(t, "Parse of what was printed", got, l, e, api.OK)
	}
	if parsed == 0 {
		t.Error("no changed text was one of a book")
	}
}
