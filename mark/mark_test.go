package mark_test

import (
	"math/rand/v2"
	"reflect"
	"slices"
	"strconv"
	"strings"
	"testing"

	"rostellum/api"
	"rostellum/mark"
)

const lowest, highest = -1 << 63, 1<<63 - 1

// register is that of the document's examples.
func register() api.Register {
	return api.Register{Dots: 5, Lost: 1, Growers: []api.Grower{{Name: "mo", Mark: 3}, {Name: "lu", Mark: 28}}}
}

// notes are those of the document's examples.
func notes() []api.MarkNote {
	return []api.MarkNote{
		{Id: 1, Kind: api.NotePrick, Pod: "p", Who: "mo", Day: 5},
		{Id: 2, Kind: api.NoteCut, Pod: "p", Who: "mo", Day: 90},
		{Id: 4, Kind: api.NoteSell, Pod: "p", Who: "mo", Day: 95, Read: 1, Buyer: "ka"},
		{Id: 7, Kind: api.NoteSell, Pod: "p", Who: "mo", Day: 96, Read: 3, Buyer: "ka"},
		{Id: 8, Kind: api.NotePrick, Pod: "q", Who: "lu", Day: 6},
		{Id: 9, Kind: api.NoteTheft, Pod: "q", Who: "lu", Day: 80},
		{Id: 10, Kind: api.NoteCut, Pod: "q", Who: "lu", Day: 90},
	}
}

// with is the register of the examples, changed.
func with(change func(r *api.Register)) api.Register {
	r := register()
	change(&r)
	return r
}

// noteWith are the notes of the examples, of which one is changed.
func noteWith(i int, change func(n *api.MarkNote)) []api.MarkNote {
	l := notes()
	change(&l[i])
	return l
}

// growers have marks, and names in the order of the alphabet.
func growers(marks ...int) []api.Grower {
	var l []api.Grower
	for i, m := range marks {
		l = append(l, api.Grower{Name: "g" + string(rune('a'+i)), Mark: m})
	}
	return l
}

// pricks are so many notes, from an Id on.
func pricks(from, many int) []api.MarkNote {
	var l []api.MarkNote
	for id := from; id < from+many; id++ {
		l = append(l, api.MarkNote{Id: id, Kind: api.NotePrick, Pod: "p" + strconv.Itoa(id), Who: "mo", Day: 1})
	}
	return l
}

// want compares a result; a nil list and an empty one are the same.
func want[T any](t *testing.T, name string, got, wanted T, e, code api.Errno) {
	t.Helper()
	if e != code {
		t.Errorf("%s: error %d instead of %d", name, e, code)
	}
	if v := reflect.ValueOf(got); v.Kind() == reflect.Slice && v.Len() == 0 && reflect.ValueOf(wanted).Len() == 0 {
		return
	}
	if !reflect.DeepEqual(got, wanted) {
		t.Errorf("%s: %v instead of %v", name, got, wanted)
	}
}

func wrongRegisters() map[string]api.Register {
	return map[string]api.Register{
		"zero":            {},
		"no dot":          {Dots: 0, Lost: 1},
		"-1 dots":         with(func(r *api.Register) { r.Dots = -1 }),
		"13 dots":         with(func(r *api.Register) { r.Dots = 13 }),
		"64 dots":         with(func(r *api.Register) { r.Dots = 64 }),
		"lowest dots":     with(func(r *api.Register) { r.Dots = lowest }),
		"highest dots":    with(func(r *api.Register) { r.Dots = highest }),
		"-1 lost":         with(func(r *api.Register) { r.Lost = -1 }),
		"4 lost":          {Dots: 12, Lost: 4},
		"lowest lost":     with(func(r *api.Register) { r.Lost = lowest }),
		"highest lost":    with(func(r *api.Register) { r.Lost = highest }),
		"13 growers":      {Dots: 12, Growers: growers(1, 2, 3, 4, 5, 6, 7, 8, 9, 10, 11, 12, 13)},
		"no name":         with(func(r *api.Register) { r.Growers[1].Name = "" }),
		"no word":         with(func(r *api.Register) { r.Growers[0].Name = "Mo" }),
		"a long name":     with(func(r *api.Register) { r.Growers[0].Name = "abcdefghijklmnopq" }),
		"one name":        with(func(r *api.Register) { r.Growers[1].Name = "mo" }),
		"no mark":         with(func(r *api.Register) { r.Growers[0].Mark = 0 }),
		"no mark at all":  {Dots: 5, Growers: growers(0)},
		"mark below 0":    with(func(r *api.Register) { r.Growers[0].Mark = -3 }),
		"mark above all":  with(func(r *api.Register) { r.Growers[1].Mark = 32 }),
		"mark and more":   with(func(r *api.Register) { r.Growers[1].Mark = 60 }),
		"lowest mark":     with(func(r *api.Register) { r.Growers[1].Mark = lowest }),
		"highest mark":    with(func(r *api.Register) { r.Growers[1].Mark = highest }),
		"as many as lost": with(func(r *api.Register) { r.Growers[0].Mark = 16 }),
		"fewer than lost": with(func(r *api.Register) { r.Lost = 3 }),
	}
}

func clashingRegisters() map[string]api.Register {
	return map[string]api.Register{
		"example":       with(func(r *api.Register) { r.Growers[1].Mark = 6 }),
		"the same mark": {Dots: 5, Lost: 0, Growers: growers(5, 3, 5)},
		"one more dot":  {Dots: 5, Lost: 1, Growers: growers(3, 7)},
		"one dot less":  {Dots: 5, Lost: 1, Growers: growers(7, 3)},
		"two of each":   {Dots: 12, Lost: 2, Growers: growers(7, 25)},
		"three of each": {Dots: 12, Lost: 3, Growers: growers(15, 113)},
		"last two":      {Dots: 12, Lost: 0, Growers: growers(1, 2, 3, 4, 5, 6, 7, 8, 9, 10, 11, 11)},
		"first of many": {Dots: 12, Lost: 1, Growers: growers(3, 5, 96)},
	}
}

func goodRegisters() map[string]api.Register {
	return map[string]api.Register{
		"example":         register(),
		"no grower":       {Dots: 1},
		"nothing to lose": {Dots: 1, Lost: 3},
		"one dot":         {Dots: 1, Growers: growers(1)},
		"all marks":       {Dots: 3, Growers: growers(1, 2, 3, 4, 5, 6, 7)},
		"one within":      {Dots: 3, Lost: 1, Growers: growers(7)},
		"two more dots":   {Dots: 5, Lost: 1, Growers: growers(3, 15)},
		"two dots less":   {Dots: 5, Lost: 1, Growers: growers(15, 3)},
		"two to one":      {Dots: 5, Lost: 1, Growers: growers(7, 25)},
		"12 growers":      {Dots: 12, Growers: growers(1, 2, 3, 4, 5, 6, 7, 8, 9, 10, 11, 4095)},
		"16 bytes":        {Dots: 12, Lost: 3, Growers: []api.Grower{{Name: "abcdefghijklmnop", Mark: 4095}, {Name: "a", Mark: 15}}},
	}
}

func wrongBooks() map[string][]api.MarkNote {
	return map[string][]api.MarkNote{
		"zero":              make([]api.MarkNote, 1),
		"65 notes":          pricks(1, 65),
		"one Id":            noteWith(1, func(n *api.MarkNote) { n.Id = 1 }),
		"Ids turned":        noteWith(4, func(n *api.MarkNote) { n.Id = 6 }),
		"Id 0":              noteWith(0, func(n *api.MarkNote) { n.Id = 0 }),
		"Id -1":             noteWith(0, func(n *api.MarkNote) { n.Id = -1 }),
		"Id 1000001":        noteWith(6, func(n *api.MarkNote) { n.Id = 1000001 }),
		"lowest Id":         noteWith(0, func(n *api.MarkNote) { n.Id = lowest }),
		"highest Id":        noteWith(6, func(n *api.MarkNote) { n.Id = highest }),
		"kind 0":            noteWith(0, func(n *api.MarkNote) { n.Kind = 0 }),
		"kind 5":            noteWith(0, func(n *api.MarkNote) { n.Kind = 5 }),
		"kind -1":           noteWith(6, func(n *api.MarkNote) { n.Kind = -1 }),
		"lowest kind":       noteWith(6, func(n *api.MarkNote) { n.Kind = lowest }),
		"highest kind":      noteWith(6, func(n *api.MarkNote) { n.Kind = highest }),
		"no pod":            noteWith(0, func(n *api.MarkNote) { n.Pod = "" }),
		"pod no word":       noteWith(2, func(n *api.MarkNote) { n.Pod = "p q" }),
		"a long pod":        noteWith(2, func(n *api.MarkNote) { n.Pod = "abcdefghijklmnopq" }),
		"nobody":            noteWith(0, func(n *api.MarkNote) { n.Who = "" }),
		"who no word":       noteWith(2, func(n *api.MarkNote) { n.Who = "9" }),
		"day -1":            noteWith(0, func(n *api.MarkNote) { n.Day = -1 }),
		"day 30001":         noteWith(6, func(n *api.MarkNote) { n.Day = 30001 }),
		"lowest day":        noteWith(6, func(n *api.MarkNote) { n.Day = lowest }),
		"highest day":       noteWith(6, func(n *api.MarkNote) { n.Day = highest }),
		"read -1":           noteWith(2, func(n *api.MarkNote) { n.Read = -1 }),
		"read 4096":         noteWith(2, func(n *api.MarkNote) { n.Read = 4096 }),
		"lowest read":       noteWith(2, func(n *api.MarkNote) { n.Read = lowest }),
		"highest read":      noteWith(2, func(n *api.MarkNote) { n.Read = highest }),
		"no buyer":          noteWith(2, func(n *api.MarkNote) { n.Buyer = "" }),
		"buyer no word":     noteWith(2, func(n *api.MarkNote) { n.Buyer = "Ka" }),
		"prick with read":   noteWith(0, func(n *api.MarkNote) { n.Read = 1 }),
		"prick with buyer":  noteWith(0, func(n *api.MarkNote) { n.Buyer = "ka" }),
		"cut with read":     noteWith(1, func(n *api.MarkNote) { n.Read = 1 }),
		"cut with buyer":    noteWith(1, func(n *api.MarkNote) { n.Buyer = "ka" }),
		"theft with read":   noteWith(5, func(n *api.MarkNote) { n.Read = -1 }),
		"theft with buyer":  noteWith(5, func(n *api.MarkNote) { n.Buyer = "ka" }),
		"a sale that is no": noteWith(2, func(n *api.MarkNote) { n.Kind = api.NoteTheft }),
	}
}

func goodBooks() map[string][]api.MarkNote {
	return map[string][]api.MarkNote{
		"none":     nil,
		"empty":    {},
		"example":  notes(),
		"64 notes": pricks(999937, 64),
		"least":    {{Id: 1, Kind: api.NoteSell, Pod: "a", Who: "a", Buyer: "a"}},
		"greatest": {{Id: 1000000, Kind: api.NoteSell, Pod: "abcdefghijklmnop", Who: "z-0", Day: 30000, Read: 4095, Buyer: "z--------------9"}},
		"theft":    {{Id: 5, Kind: api.NoteTheft, Pod: "prick", Who: "note", Day: 0}},
	}
}

// wantErrors calls all functions with a register, and wants one error of them.
func wantErrors(t *testing.T, name string, r api.Register, dots int, l []api.MarkNote, code api.Errno) {
	t.Helper()
	n, e := mark.Read(r, dots)
	want(t, name+": Read", n, 0, e, code)
	n, e = mark.Fresh(r)
	want(t, name+": Fresh", n, 0, e, code)
	fates, e := mark.Fates(r, l)
	want(t, name+": Fates", fates, nil, e, code)
	void, e := mark.Void(r, l)
	want(t, name+": Void", void, nil, e, code)
}

// P5.1
func TestRegisters(t *testing.T) {
	for name, r := range goodRegisters() {
		want(t, name, mark.Check(r), api.OK, 0, 0)
	}
	for name, r := range wrongRegisters() {
		want(t, name, mark.Check(r), api.ErrMark, 0, 0)
		for _, dots := range []int{3, -1, highest} {
			wantErrors(t, name, r, dots, notes(), api.ErrMark)
			wantErrors(t, name, r, dots, pricks(0, 1), api.ErrMark)
		}
	}
	for name, r := range clashingRegisters() {
		want(t, name, mark.Check(r), api.ErrMarkClash, 0, 0)
		for _, dots := range []int{3, -1, highest} {
			wantErrors(t, name, r, dots, notes(), api.ErrMarkClash)
			wantErrors(t, name, r, dots, pricks(0, 1), api.ErrMarkClash)
		}
	}
	both := with(func(r *api.Register) { r.Growers[1] = r.Growers[0] })
	want(t, "one grower twice", mark.Check(both), api.ErrMark, 0, 0)
}

// P5.1
func TestBooks(t *testing.T) {
	for name, l := range goodBooks() {
		want(t, name, mark.CheckNotes(l), api.OK, 0, 0)
	}
	for name, l := range wrongBooks() {
		want(t, name, mark.CheckNotes(l), api.ErrMarkNotes, 0, 0)
		fates, e := mark.Fates(register(), l)
		want(t, name+": Fates", fates, nil, e, api.ErrMarkNotes)
		void, e := mark.Void(register(), l)
		want(t, name+": Void", void, nil, e, api.ErrMarkNotes)
		s, e := mark.Print(l)
		want(t, name+": Print", s, "", e, api.ErrMarkNotes)
		for _, other := range [][]api.MarkNote{nil, notes(), pricks(1, 64), l} {
			m, e := mark.Merge(l, other)
			want(t, name+": Merge", m, nil, e, api.ErrMarkNotes)
			m, e = mark.Merge(other, l)
			want(t, name+": Merge with it", m, nil, e, api.ErrMarkNotes)
		}
	}
}

// P5.2
func TestRead(t *testing.T) {
	all := api.Register{Dots: 3, Growers: growers(7, 6, 5, 4, 3, 2, 1)}
	lossy := api.Register{Dots: 12, Lost: 3, Growers: growers(15, 4080)}
	for name, x := range map[string]struct {
		r     api.Register
		dots  int
		index int
		e     api.Errno
	}{
		"whole":              {register(), 3, 0, api.OK},
		"the first is lost":  {register(), 2, 0, api.OK},
		"the second is lost": {register(), 1, 0, api.OK},
		"whole lu":           {register(), 28, 1, api.OK},
		"lu without 3":       {register(), 20, 1, api.OK},
		"lu without two":     {register(), 8, 0, api.ErrNone},
		"of both":            {register(), 5, 0, api.ErrNone},
		"no dot":             {register(), 0, 0, api.ErrNone},
		"all dots":           {register(), 31, 0, api.ErrNone},
		"mo and more":        {register(), 7, 0, api.ErrNone},
		"32":                 {register(), 32, 0, api.ErrRange},
		"-1":                 {register(), -1, 0, api.ErrRange},
		"lowest":             {register(), lowest, 0, api.ErrRange},
		"highest":            {register(), highest, 0, api.ErrRange},
		"7 of 7":             {all, 7, 0, api.OK},
		"1 of 7":             {all, 1, 6, api.OK},
		"0 of 7":             {all, 0, 0, api.ErrNone},
		"8 of 7":             {all, 8, 0, api.ErrRange},
		"three lost":         {lossy, 8, 0, api.OK},
		"three of eight":     {lossy, 4080 &^ 112, 1, api.OK},
		"four of eight":      {lossy, 4080 &^ 240, 0, api.ErrNone},
		"no mark":            {api.Register{Dots: 12}, 4095, 0, api.ErrNone},
		"above 4095":         {api.Register{Dots: 12}, 4096, 0, api.ErrRange},
	} {
		n, e := mark.Read(x.r, x.dots)
		want(t, name, n, x.index, e, x.e)
	}
}

// P5.2
func TestFresh(t *testing.T) {
	for name, x := range map[string]struct {
		r    api.Register
		mark int
		e    api.Errno
	}{
		"example":          {register(), 15, api.OK},
		"no grower":        {api.Register{Dots: 12}, 1, api.OK},
		"two dots":         {api.Register{Dots: 12, Lost: 1}, 3, api.OK},
		"four dots":        {api.Register{Dots: 12, Lost: 3}, 15, api.OK},
		"just four":        {api.Register{Dots: 4, Lost: 3}, 15, api.OK},
		"too few dots":     {api.Register{Dots: 3, Lost: 3}, 0, api.ErrNone},
		"one dot":          {api.Register{Dots: 1, Lost: 1}, 0, api.ErrNone},
		"one dot is given": {api.Register{Dots: 1, Growers: growers(1)}, 0, api.ErrNone},
		"all but 6":        {api.Register{Dots: 3, Growers: growers(1, 2, 3, 4, 5, 7)}, 6, api.OK},
		"all":              {api.Register{Dots: 3, Growers: growers(7, 1, 2, 3, 4, 5, 6)}, 0, api.ErrNone},
		"all but itself":   {api.Register{Dots: 3, Lost: 1, Growers: growers(7)}, 0, api.ErrNone},
		"11 growers":       {api.Register{Dots: 12, Growers: growers(1, 2, 3, 4, 5, 6, 7, 8, 9, 10, 11)}, 12, api.OK},
		"12 growers":       {api.Register{Dots: 12, Growers: growers(1, 2, 3, 4, 5, 6, 7, 8, 9, 10, 11, 12)}, 0, api.ErrFull},
	} {
		n, e := mark.Fresh(x.r)
		want(t, name, n, x.mark, e, x.e)
	}
}

// P5.2: marks can be added until there is none, or the register is full.
func TestFreshAgainAndAgain(t *testing.T) {
	for dots := 1; dots <= 12; dots++ {
		for lost := range 4 {
			r := api.Register{Dots: dots, Lost: lost}
			for {
				m, e := mark.Fresh(r)
				if e != api.OK {
					if (e == api.ErrFull) != (len(r.Growers) == 12) || e != api.ErrFull && e != api.ErrNone {
						t.Errorf("%v: %d", r, e)
					}
					break
				}
				r.Growers = append(r.Growers, api.Grower{Name: "g" + strconv.Itoa(len(r.Growers)), Mark: m})
				if e := mark.Check(r); e != api.OK {
					t.Fatalf("%v: %d", r, e)
				}
			}
		}
	}
}

// P5.3
func TestMerge(t *testing.T) {
	l := notes()
	earlier := api.MarkNote{Id: 2, Kind: api.NoteCut, Pod: "p", Who: "mo", Day: 80}
	for name, x := range map[string]struct {
		a, b, want []api.MarkNote
		e          api.Errno
	}{
		"example":          {l[:2], []api.MarkNote{earlier}, []api.MarkNote{l[0], earlier}, api.OK},
		"none":             {nil, nil, nil, api.OK},
		"with none":        {l, nil, l, api.OK},
		"itself":           {l, l, l, api.OK},
		"apart":            {l[:3], l[3:], l, api.OK},
		"one in the other": {[]api.MarkNote{l[0], l[2], l[5]}, []api.MarkNote{l[1], l[3], l[4], l[6]}, l, api.OK},
		"some in both":     {l[:5], l[2:], l, api.OK},
		"64":               {pricks(1, 32), pricks(33, 32), pricks(1, 64), api.OK},
		"64 in both":       {pricks(1, 64), pricks(1, 64), pricks(1, 64), api.OK},
		"65":               {pricks(1, 32), pricks(33, 33), nil, api.ErrFull},
		"one too many":     {pricks(1, 64), pricks(2, 64), nil, api.ErrFull},
		"128":              {pricks(1, 64), pricks(65, 64), nil, api.ErrFull},
	} {
		m, e := mark.Merge(x.a, x.b)
		want(t, name, m, x.want, e, x.e)
		m, e = mark.Merge(x.b, x.a)
		want(t, name+" turned", m, x.want, e, x.e)
	}
}

// P5.3: the first field that differs decides.
func TestMergeOfOneId(t *testing.T) {
	sale := func(pod, who string, day, read int, buyer string) api.MarkNote {
		return api.MarkNote{Id: 5, Kind: api.NoteSell, Pod: pod, Who: who, Day: day, Read: read, Buyer: buyer}
	}
	order := []api.MarkNote{
		{Id: 5, Kind: api.NotePrick, Pod: "z", Who: "z", Day: 9},
		{Id: 5, Kind: api.NoteCut, Pod: "a", Who: "b", Day: 9},
		{Id: 5, Kind: api.NoteCut, Pod: "b", Who: "a", Day: 0},
		sale("a", "z", 9, 9, "z"), sale("a-", "z", 9, 9, "z"), sale("a0", "z", 9, 9, "z"), sale("aa", "z", 9, 9, "z"),
		sale("b", "a", 9, 9, "z"), sale("b", "b", 8, 9, "z"), sale("b", "b", 9, 8, "z"), sale("b", "b", 10, 7, "y"), sale("b", "b", 10, 7, "z"), sale("b", "b", 10, 10, "a"), sale("b", "bb", 0, 0, "a"),
		{Id: 5, Kind: api.NoteTheft, Pod: "a", Who: "a"},
	}
	for i, less := range order {
		for _, other := range order[i:] {
			for _, x := range [][2]api.MarkNote{{less, other}, {other, less}} {
				m, e := mark.Merge(x[:1], x[1:])
				want(t, "Merge", m, []api.MarkNote{less}, e, api.OK)
			}
		}
	}
}

// P5.4
func TestFatesOfTheExample(t *testing.T) {
	fates, e := mark.Fates(register(), notes())
	want(t, "Fates", fates, []api.Fate{
		{Pod: "p", State: api.PodSold, Owner: "mo", Prick: 1, Cut: 2, Sell: 4},
		{Pod: "q", State: api.PodStolen, Owner: "lu", Prick: 8, Gone: 9},
	}, e, api.OK)
	void, e := mark.Void(register(), notes())
	want(t, "Void", void, []int{7, 10}, e, api.OK)
	for name, l := range map[string][]api.MarkNote{"none": nil, "empty": {}} {
		fates, e := mark.Fates(register(), l)
		want(t, name, fates, nil, e, api.OK)
		void, e := mark.Void(register(), l)
		want(t, name, void, nil, e, api.OK)
	}
}

// history are notes of the pod p with the Ids 1, 2 and so on, all of one day; a word of each tells its kind, and who wrote it.
func history(words ...string) []api.MarkNote {
	kinds := map[string]int{"prick": api.NotePrick, "cut": api.NoteCut, "sell": api.NoteSell, "theft": api.NoteTheft}
	var l []api.MarkNote
	for i, w := range words {
		f := strings.Split(w, " ")
		n := api.MarkNote{Id: i + 1, Kind: kinds[f[0]], Pod: "p", Who: f[1], Day: 7}
		if len(f) > 2 {
			n.Read, _ = strconv.Atoi(f[2])
			n.Buyer = "ka"
		}
		l = append(l, n)
	}
	return l
}

// P5.4, P5.9
func TestFates(t *testing.T) {
	for name, x := range map[string]struct {
		l    []api.MarkNote
		fate api.Fate
		void []int
	}{
		"pricked":             {history("prick mo"), api.Fate{State: 1, Owner: "mo", Prick: 1}, nil},
		"no grower":           {history("prick ka"), api.Fate{}, []int{1}},
		"the first grower":    {history("prick ka", "prick lu", "prick mo"), api.Fate{State: 1, Owner: "lu", Prick: 2}, []int{1, 3}},
		"pricked twice":       {history("prick mo", "prick mo"), api.Fate{State: 1, Owner: "mo", Prick: 1}, []int{2}},
		"cut unpricked":       {history("cut mo"), api.Fate{}, []int{1}},
		"cut":                 {history("prick mo", "cut mo"), api.Fate{State: 2, Owner: "mo", Prick: 1, Cut: 2}, nil},
		"cut by another one":  {history("prick mo", "cut lu"), api.Fate{State: 1, Owner: "mo", Prick: 1}, []int{2}},
		"cut twice":           {history("prick mo", "cut mo", "cut mo"), api.Fate{State: 2, Owner: "mo", Prick: 1, Cut: 2}, []int{3}},
		"pricked when cut":    {history("prick mo", "cut mo", "prick mo"), api.Fate{State: 2, Owner: "mo", Prick: 1, Cut: 2}, []int{3}},
		"sold unpricked":      {history("sell mo 3"), api.Fate{}, []int{1}},
		"sold uncut":          {history("prick mo", "sell mo 3"), api.Fate{State: 1, Owner: "mo", Prick: 1}, []int{2}},
		"sold":                {history("prick mo", "cut mo", "sell mo 3"), api.Fate{State: 3, Owner: "mo", Prick: 1, Cut: 2, Sell: 3}, nil},
		"sold, one dot lost":  {history("prick lu", "cut lu", "sell lu 12"), api.Fate{State: 3, Owner: "lu", Prick: 1, Cut: 2, Sell: 3}, nil},
		"sold, two dots lost": {history("prick lu", "cut lu", "sell lu 16"), api.Fate{State: 2, Owner: "lu", Prick: 1, Cut: 2}, []int{3}},
		"another mark":        {history("prick mo", "cut mo", "sell mo 28"), api.Fate{State: 2, Owner: "mo", Prick: 1, Cut: 2}, []int{3}},
		"no mark":             {history("prick mo", "cut mo", "sell mo 0", "sell mo 7"), api.Fate{State: 2, Owner: "mo", Prick: 1, Cut: 2}, []int{3, 4}},
		"no dots of frame":    {history("prick mo", "cut mo", "sell mo 35", "sell mo 4095"), api.Fate{State: 2, Owner: "mo", Prick: 1, Cut: 2}, []int{3, 4}},
		"sold by another one": {history("prick mo", "cut mo", "sell lu 28", "sell lu 3", "sell ka 3"), api.Fate{State: 2, Owner: "mo", Prick: 1, Cut: 2}, []int{3, 4, 5}},
		"sold after that":     {history("prick mo", "cut mo", "sell lu 28", "sell mo 2"), api.Fate{State: 3, Owner: "mo", Prick: 1, Cut: 2, Sell: 4}, []int{3}},
		"sold twice":          {history("prick mo", "cut mo", "sell mo 3", "sell mo 3"), api.Fate{State: 3, Owner: "mo", Prick: 1, Cut: 2, Sell: 3}, []int{4}},
		"stolen unpricked":    {history("theft mo"), api.Fate{}, []int{1}},
		"stolen":              {history("prick mo", "theft mo"), api.Fate{State: 4, Owner: "mo", Prick: 1, Gone: 2}, nil},
		"stolen when cut":     {history("prick mo", "cut mo", "theft mo"), api.Fate{State: 4, Owner: "mo", Prick: 1, Cut: 2, Gone: 3}, nil},
		"stolen when sold":    {history("prick mo", "cut mo", "sell mo 3", "theft mo"), api.Fate{State: 3, Owner: "mo", Prick: 1, Cut: 2, Sell: 3}, []int{4}},
		"stolen by its words": {history("prick mo", "theft lu"), api.Fate{State: 1, Owner: "mo", Prick: 1}, []int{2}},
		"stolen twice":        {history("prick mo", "theft mo", "theft mo"), api.Fate{State: 4, Owner: "mo", Prick: 1, Gone: 2}, []int{3}},
		"after the theft":     {history("prick mo", "cut mo", "theft mo", "prick lu", "cut mo", "sell mo 3"), api.Fate{State: 4, Owner: "mo", Prick: 1, Cut: 2, Gone: 3}, []int{4, 5, 6}},
		"after the sale":      {history("prick mo", "cut mo", "sell mo 3", "prick lu", "cut mo"), api.Fate{State: 3, Owner: "mo", Prick: 1, Cut: 2, Sell: 3}, []int{4, 5}},
	} {
		x.fate.Pod = "p"
		fates, e := mark.Fates(register(), x.l)
		want(t, name+": Fates", fates, []api.Fate{x.fate}, e, api.OK)
		void, e := mark.Void(register(), x.l)
		want(t, name+": Void", void, x.void, e, api.OK)
	}
}

// P5.4: days come before Ids, and Ids before the order of kinds.
func TestOrderOfNotes(t *testing.T) {
	l := history("sell mo 3", "cut mo", "prick mo", "prick lu")
	for _, x := range []struct {
		days []int
		fate api.Fate
		void []int
	}{
		{[]int{9, 8, 7, 7}, api.Fate{State: 3, Owner: "mo", Prick: 3, Cut: 2, Sell: 1}, []int{4}},
		{[]int{7, 7, 7, 7}, api.Fate{State: 1, Owner: "mo", Prick: 3}, []int{1, 2, 4}},
		{[]int{9, 8, 7, 6}, api.Fate{State: 1, Owner: "lu", Prick: 4}, []int{1, 2, 3}},
		{[]int{8, 8, 7, 7}, api.Fate{State: 2, Owner: "mo", Prick: 3, Cut: 2}, []int{1, 4}},
		{[]int{30000, 30000, 0, 1}, api.Fate{State: 2, Owner: "mo", Prick: 3, Cut: 2}, []int{1, 4}},
	} {
		for i := range l {
			l[i].Day = x.days[i]
		}
		x.fate.Pod = "p"
		fates, e := mark.Fates(register(), l)
		want(t, "Fates", fates, []api.Fate{x.fate}, e, api.OK)
		void, e := mark.Void(register(), l)
		want(t, "Void", void, x.void, e, api.OK)
	}
}

// P5.4: pods stand in the order of their words, all of them.
func TestOrderOfPods(t *testing.T) {
	words := []string{"b", "a", "aa", "a0", "a-", "z", "ab", "a"}
	var l []api.MarkNote
	for i, w := range words {
		l = append(l, api.MarkNote{Id: i + 1, Kind: api.NoteCut, Pod: w, Who: "mo", Day: i})
	}
	fates, e := mark.Fates(register(), l)
	want(t, "Fates", fates, []api.Fate{{Pod: "a"}, {Pod: "a-"}, {Pod: "a0"}, {Pod: "aa"}, {Pod: "ab"}, {Pod: "b"}, {Pod: "z"}}, e, api.OK)
	void, e := mark.Void(register(), l)
	want(t, "Void", void, []int{1, 2, 3, 4, 5, 6, 7, 8}, e, api.OK)
	fates, e = mark.Fates(api.Register{Dots: 1}, pricks(1, 64))
	if e != api.OK || len(fates) != 64 || fates[0] != (api.Fate{Pod: "p1"}) || fates[1].Pod != "p10" || fates[63].Pod != "p9" {
		t.Errorf("Fates of 64 pods: %v, %d", fates, e)
	}
}

const text = "note 1 prick p mo 5\n" +
	"note 2 cut p mo 90\n" +
	"note 4 sell p mo 95 1 ka\n" +
	"note 7 sell p mo 96 3 ka\n" +
	"note 8 prick q lu 6\n" +
	"note 9 theft q lu 80\n" +
	"note 10 cut q lu 90\n"

// P5.5, P5.11
func TestTexts(t *testing.T) {
	s, e := mark.Print(notes())
	want(t, "Print", s, text, e, api.OK)
	l, e := mark.Parse(text)
	want(t, "Parse", l, notes(), e, api.OK)
	l, e = mark.Parse("")
	want(t, "Parse of an empty text", l, nil, e, api.OK)
	for name, book := range goodBooks() {
		s, e := mark.Print(book)
		if e != api.OK {
			t.Errorf("%s: Print: %d", name, e)
		}
		l, e := mark.Parse(s)
		want(t, name, l, book, e, api.OK)
	}
	s, e = mark.Print(goodBooks()["greatest"])
	want(t, "Print", s, "note 1000000 sell abcdefghijklmnop z-0 30000 4095 z--------------9\n", e, api.OK)
	s, e = mark.Print(goodBooks()["least"])
	want(t, "Print", s, "note 1 sell a a 0 0 a\n", e, api.OK)
}

// P5.5
func TestWrongTexts(t *testing.T) {
	for _, s := range []string{
		"note 1 prick p mo 5", "note", "note\n", "note \n", "note 1\n", "note 1 prick\n", "note 1 prick p\n", "note 1 prick p mo\n", "note 1 sell p mo 5\n", "note 1 sell p mo 5 1\n",
		"note 1 prick p mo 5 0\n", "note 1 prick p mo 5 0 ka\n", "note 1 prick p mo 5 \n", "note 1 sell p mo 5 1 ka \n", "note 1 sell p mo 5 1 ka ka\n",
		"Note 1 prick p mo 5\n", "notes 1 prick p mo 5\n", "vine 1 prick p mo 5\n", "1 prick p mo 5\n", " note 1 prick p mo 5\n", "note  1 prick p mo 5\n", "note 1  prick p mo 5\n", "note 1 prick  p mo 5\n", "note 1 prick p  mo 5\n", "note\t1 prick p mo 5\n",
		"note 1 Prick p mo 5\n", "note 1 pricks p mo 5\n", "note 1 1 p mo 5\n", "note 1 steal p mo 5\n", "note 1  p mo 5\n",
		"note 1 prick P mo 5\n", "note 1 prick 1 mo 5\n", "note 1 prick abcdefghijklmnopq mo 5\n", "note 1 prick p Mo 5\n", "note 1 sell p mo 5 1 Ka\n", "note 1 sell p mo 5 1 \n",
		"note 01 prick p mo 5\n", "note +1 prick p mo 5\n", "note -1 prick p mo 5\n", "note 1.0 prick p mo 5\n", "note 0x1 prick p mo 5\n", "note 1_0 prick p mo 5\n", "note x prick p mo 5\n",
		"note 0 prick p mo 5\n", "note 1000001 prick p mo 5\n", "note 18446744073709551617 prick p mo 5\n", "note 99999999999999999999999999999999 prick p mo 5\n",
		"note 1 prick p mo 05\n", "note 1 prick p mo 00\n", "note 1 prick p mo -0\n", "note 1 prick p mo -5\n", "note 1 prick p mo 30001\n", "note 1 prick p mo \n",
		"note 1 sell p mo 5 4096 ka\n", "note 1 sell p mo 5 -1 ka\n", "note 1 sell p mo 5 01 ka\n", "note 1 sell p mo 5 ka 1\n",
		"note 1 prick p mo 5\nnote 1 prick q mo 5\n", "note 2 prick p mo 5\nnote 1 prick q mo 5\n", "note 1 prick p mo 5\r\n", "note 1 prick p mo 5\n\n", "\nnote 1 prick p mo 5\n", "note 1 prick p mo 5\n ", "note 1 prick p mo 5\nnote 2 cut p mo 5",
		"\n", " ", "\x00", "note 1 prick p\nmo 5\n", text + text, strings.Repeat("a", api.MaxFile), strings.Repeat(" ", api.MaxFile), strings.Repeat("\n", api.MaxFile),
		lines(65),
	} {
		l, e := mark.Parse(s)
		want(t, "Parse of "+s[:min(len(s), 40)], l, nil, e, api.ErrForm)
	}
	for _, s := range []string{strings.Repeat("a", api.MaxFile+1), strings.Repeat("note 1 prick p mo 5\n", api.MaxFile)} {
		l, e := mark.Parse(s)
		want(t, "Parse of a long text", l, nil, e, api.ErrLimit)
	}
	l, e := mark.Parse(lines(64))
	if e != api.OK || len(l) != 64 {
		t.Errorf("Parse of 64 lines: %v, %d", l, e)
	}
}

// lines is a text of so many notes.
func lines(many int) string {
	var b strings.Builder
	for i := range many {
		b.WriteString("note " + strconv.Itoa(i+1) + " theft p mo 5\n")
	}
	return b.String()
}

// P5.6, P2: arguments stay as they are, and a result that is changed changes no other one.
func TestMemory(t *testing.T) {
	r, a, b := register(), notes()[:4], notes()[2:]
	// What lies behind a list is not the functions' either.
	r.Growers = append(make([]api.Grower, 0, 8), r.Growers...)
	all := append(make([]api.MarkNote, 0, 16), notes()...)
	all = append(all[:5], api.MarkNote{Id: 7})[:5]
	for name, call := range map[string]func() any{
		"Merge": func() any {
			l, _ := mark.Merge(a, b)
			kept := slices.Clone(l)
			_ = append(l, api.MarkNote{Id: 77})
			clear(l)
			return kept
		},
		"Merge with none": func() any {
			l, _ := mark.Merge(nil, b)
			kept := slices.Clone(l)
			clear(l)
			return kept
		},
		"Fates": func() any {
			l, _ := mark.Fates(r, b)
			kept := slices.Clone(l)
			clear(l)
			return kept
		},
		"Void": func() any {
			l, _ := mark.Void(r, b)
			kept := slices.Clone(l)
			clear(l)
			return kept
		},
		"Parse": func() any {
			l, _ := mark.Parse(text)
			kept := slices.Clone(l)
			clear(l)
			return kept
		},
		"Merge of a part": func() any {
			l, _ := mark.Merge(all, notes()[5:])
			if all[:6][5] != (api.MarkNote{Id: 7}) {
				t.Errorf("Merge wrote behind its argument: %v", all[:6])
			}
			return l
		},
	} {
		first := call()
		if again := call(); !reflect.DeepEqual(first, again) {
			t.Errorf("%s: %v, and then %v", name, first, again)
		}
	}
	mark.Check(r)
	mark.Read(r, 3)
	mark.Fresh(r)
	mark.CheckNotes(a)
	mark.Print(a)
	if !reflect.DeepEqual(r, register()) || !slices.Equal(a, notes()[:4]) || !slices.Equal(b, notes()[2:]) {
		t.Errorf("arguments changed: %v, %v, %v", r, a, b)
	}
	turned := notes()
	slices.Reverse(turned)
	before := slices.Clone(turned)
	for i := range turned {
		turned[i].Id, before[i].Id = i+1, i+1
	}
	mark.Fates(r, turned)
	mark.Void(r, turned)
	if !slices.Equal(turned, before) {
		t.Errorf("notes were sorted where they are: %v", turned)
	}
}

// P5.6: nothing of an argument is kept, so that it can be changed after the call.
func TestNothingIsRetained(t *testing.T) {
	r, l := register(), notes()
	merged, _ := mark.Merge(l, nil)
	fates, _ := mark.Fates(r, l)
	kept := []any{slices.Clone(merged), slices.Clone(fates)}
	clear(l)
	clear(r.Growers)
	if now := []any{merged, fates}; !reflect.DeepEqual(now, kept) {
		t.Errorf("results changed from %v to %v", kept, now)
	}
	r.Growers = []api.Grower{{Name: "mo", Mark: 28}}
	n, e := mark.Read(r, 28)
	want(t, "Read after a change", n, 0, e, api.OK)
}

// P1: no function panics, whatever the arguments are.
func TestAnyArguments(t *testing.T) {
	r := rand.New(rand.NewPCG(5, 50))
	n := func() int {
		return []int{lowest, -1, 0, 1, 2, 3, 4, 5, 12, 13, 28, 63, 64, 4095, 4096, highest}[r.IntN(16)]
	}
	w := func() string { return []string{"", "a", "mo", "lu", "\x00", "A", "-", "p"}[r.IntN(8)] }
	for range 5000 {
		g, l := register(), notes()
		g.Growers[r.IntN(2)] = api.Grower{Name: w(), Mark: n()}
		switch r.IntN(3) {
		case 0:
			g.Dots = n()
		case 1:
			g.Lost = n()
		}
		l[r.IntN(7)] = api.MarkNote{Id: n(), Kind: n(), Pod: w(), Who: w(), Day: n(), Read: n(), Buyer: w()}
		bad, wrong := mark.Check(g), mark.CheckNotes(l)
		if bad != api.OK {
			wantErrors(t, "any", g, n(), l, bad)
		}
		if wrong != api.OK && wrong != api.ErrMarkNotes {
			t.Errorf("CheckNotes(%v): %d", l, wrong)
		}
		mark.Read(g, n())
		mark.Fresh(g)
		mark.Merge(l, notes())
		mark.Fates(g, l)
		mark.Void(g, l)
		mark.Print(l)
	}
}
