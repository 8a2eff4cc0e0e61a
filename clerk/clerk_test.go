package clerk_test

import (
	"reflect"
	"slices"
	"strconv"
	"strings"
	"testing"
	"unsafe"

	"rostellum/api"
	"rostellum/clerk"
	"rostellum/tin"
)

const lowest, highest = -1 << 63, 1<<63 - 1

// long is the longest word, tooLong a byte longer.
const long, tooLong = "abcdefghijklmnop", "abcdefghijklmnopq"

// setup is that of the document's examples.
func setup() api.ValleySetup {
	return api.ValleySetup{
		Register: api.Register{Dots: 5, Lost: 1, Growers: []api.Grower{{Name: "mo", Mark: 3}, {Name: "lu", Mark: 28}}},
		Roots:    []string{"council"},
	}
}

// three is a setup with three growers.
func three() api.ValleySetup {
	return api.ValleySetup{
		Register: api.Register{Dots: 8, Lost: 1, Growers: []api.Grower{{Name: "mo", Mark: 7}, {Name: "lu", Mark: 56}, {Name: "zo", Mark: 192}}},
		Roots:    []string{"council", "lu"},
	}
}

// act is a line, its answer, and its error.
type act struct {
	line, answer string
	code         api.Errno
}

func says(line, answer string) act { return act{line, answer, api.OK} }

func fails(line string, code api.Errno) act { return act{line, "", code} }

// list are several lines, divided by semicolons.
func list(lines string) []string { return strings.Split(lines, "; ") }

func open(t *testing.T, s api.ValleySetup) *clerk.Valley {
	t.Helper()
	v, e := clerk.New(s)
	if v == nil || e != api.OK {
		t.Fatalf("New: %v, %d", v, e)
	}
	return v
}

// opened is a valley in which lines were done, divided by semicolons.
func opened(t *testing.T, s api.ValleySetup, lines string) *clerk.Valley {
	t.Helper()
	v := open(t, s)
	do(t, v, lines)
	return v
}

// do does lines, divided by semicolons, all of which must go well.
func do(t *testing.T, v *clerk.Valley, lines string) {
	t.Helper()
	for _, line := range list(lines) {
		if _, e := v.Do(line); e != api.OK {
			t.Fatalf("Do(%q): error %d", line, e)
		}
	}
}

// play does lines, and compares what they return; what returns an error must not have changed anything.
func play(t *testing.T, v *clerk.Valley, acts ...act) {
	t.Helper()
	for _, a := range acts {
		before := all(v)
		answer, e := v.Do(a.line)
		if answer != a.answer || e != a.code {
			t.Errorf("Do(%q): %q, %d instead of %q, %d", a.line, answer, e, a.answer, a.code)
		}
		if a.code != api.OK {
			same(t, "after "+a.line, all(v), before)
		}
	}
}

// kept is what a valley shows.
type kept struct {
	Journal []string
	Day     int
	Vines   []api.ValleyVine
	Pods    []api.ValleyPod
	Boxes   []api.ValleyBox
	Tins    []api.ValleyTin
	Purses  []api.ValleyPurse
	Sums    api.ValleySums
	Marks   []api.MarkNote
	List    string
	Code    api.Errno
}

func all(v *clerk.Valley) kept {
	list, e := v.List()
	return kept{v.Journal(), v.Day(), v.Vines(), v.Pods(), v.Boxes(), v.Tins(), v.Purses(), v.Sums(), v.Marks(), list, e}
}

// plain returns a value in which all empty lists are nil.
func plain(v reflect.Value) reflect.Value {
	n := reflect.New(v.Type()).Elem()
	switch v.Kind() {
	case reflect.Slice:
		for i := range v.Len() {
			n.Set(reflect.Append(n, plain(v.Index(i))))
		}
	case reflect.Struct:
		for i := range v.NumField() {
			n.Field(i).Set(plain(v.Field(i)))
		}
	default:
		n.Set(v)
	}
	return n
}

// same compares two values; a nil list and an empty one are the same.
func same[T any](t *testing.T, name string, got, wanted T) {
	t.Helper()
	if reflect.DeepEqual(got, wanted) {
		return
	}
	g, w := plain(reflect.ValueOf(got)).Interface(), plain(reflect.ValueOf(wanted)).Interface()
	if !reflect.DeepEqual(g, w) {
		t.Errorf("%s: %+v instead of %+v", name, g, w)
	}
}

func TestExamples(t *testing.T) {
	v := open(t, setup())
	play(t, v,
		says("vine va mo 100 40", "2"),
		says("set va p1", "1"), says("set va p2", "2"), fails("set va p3", api.ErrFull),
		says("prick p1", ""), says("prick p2", ""),
		fails("cut p1 3", api.ErrClerkMarket),
		says("market 5 9", ""), says("day 6", ""), fails("cut p1 28", api.ErrClerkMark), says("cut p1 1", ""), says("theft p2", ""),
		says("weigh p1 20 22", ""), says("box x", ""), says("put p1 x", ""),
		fails("tin abe 1 : p2", api.ErrClerkState), fails("tin aba 1 : p1", api.ErrForm), says("tin abe 1 : p1", "20 22"),
		says("grant council 1 mo fair 0 90 0", ""), says("label abe fair", "1"), fails("label abe shade", api.ErrClerkLabel),
		says("loan mo 50", "50"), says("sell abe ka 10", "150 50"), says("owes mo", "0 150"),
		says("trace abe", "p1 va mo"), says("pod p1", "7"), says("who fair", "council mo"), says("sums", "50 50 150 200"),
	)
	same(t, "all", all(v), kept{
		Journal: list("vine va mo 100 40; set va p1; set va p2; prick p1; prick p2; market 5 9; day 6; cut p1 1; theft p2; " +
			"weigh p1 20 22; box x; put p1 x; tin abe 1 : p1; grant council 1 mo fair 0 90 0; label abe fair; loan mo 50; sell abe ka 10"),
		Day:   6,
		Vines: []api.ValleyVine{{Name: "va", Grower: 0, Bears: 2, Set: 2}},
		Pods: []api.ValleyPod{
			{Name: "p1", Vine: 0, State: api.PodPaid, Day: 6, Read: 1, Weight: api.Span{Low: 20, High: 22}, Box: api.NoBox},
			{Name: "p2", Vine: 0, State: api.PodGone, Box: api.NoBox},
		},
		Boxes:  []api.ValleyBox{{Name: "x"}},
		Tins:   []api.ValleyTin{{Code: "abe", Grade: 1, Pods: []int{0}, Weight: api.Span{Low: 20, High: 22}, Claims: []string{"fair"}, Buyer: "ka"}},
		Purses: []api.ValleyPurse{{Loan: 0, Paid: 150}, {}},
		Sums:   api.ValleySums{Lent: 50, Back: 50, Out: 150, Got: 200},
		Marks: []api.MarkNote{
			{Id: 1, Kind: api.NotePrick, Pod: "p1", Who: "mo", Day: 0},
			{Id: 2, Kind: api.NotePrick, Pod: "p2", Who: "mo", Day: 0},
			{Id: 3, Kind: api.NoteCut, Pod: "p1", Who: "mo", Day: 6},
			{Id: 4, Kind: api.NoteTheft, Pod: "p2", Who: "mo", Day: 6},
			{Id: 5, Kind: api.NoteSell, Pod: "p1", Who: "mo", Day: 6, Read: 1, Buyer: "ka"},
		},
		List: "tin abe 1 20 p1\n",
	})
}

// setupWith is the setup of the examples, which is changed.
func setupWith(change func(s *api.ValleySetup)) api.ValleySetup {
	s := setup()
	change(&s)
	return s
}

// growers are so many growers, of marks of two dots each, in a register of which none can close.
func growers(many int) api.Register {
	r := api.Register{Dots: 12}
	for i := range many {
		r.Growers = append(r.Growers, api.Grower{Name: "g" + strconv.Itoa(i), Mark: 1<<i | 1<<11})
	}
	return r
}

func wrongSetups() map[string]api.ValleySetup {
	return map[string]api.ValleySetup{
		"zero":               {},
		"day -1":             setupWith(func(s *api.ValleySetup) { s.Day = -1 }),
		"lowest day":         setupWith(func(s *api.ValleySetup) { s.Day = lowest }),
		"day 30001":          setupWith(func(s *api.ValleySetup) { s.Day = 30001 }),
		"highest day":        setupWith(func(s *api.ValleySetup) { s.Day = highest }),
		"no growers":         setupWith(func(s *api.ValleySetup) { s.Register.Growers = nil }),
		"9 growers":          setupWith(func(s *api.ValleySetup) { s.Register = growers(9) }),
		"no dots":            setupWith(func(s *api.ValleySetup) { s.Register.Dots = 0 }),
		"4 dots can close":   setupWith(func(s *api.ValleySetup) { s.Register.Lost = 4 }),
		"two with one name":  setupWith(func(s *api.ValleySetup) { s.Register.Growers[1].Name = "mo" }),
		"a name that is no":  setupWith(func(s *api.ValleySetup) { s.Register.Growers[1].Name = "Lu" }),
		"a mark of no dots":  setupWith(func(s *api.ValleySetup) { s.Register.Growers[1].Mark = 0 }),
		"marks that clash":   setupWith(func(s *api.ValleySetup) { s.Register.Growers[1].Mark = 6 }),
		"5 roots":            setupWith(func(s *api.ValleySetup) { s.Roots = []string{"a", "b", "c", "d", "e"} }),
		"a root twice":       setupWith(func(s *api.ValleySetup) { s.Roots = []string{"a", "b", "a"} }),
		"a root that is no":  setupWith(func(s *api.ValleySetup) { s.Roots = []string{"a", ""} }),
		"too long a root":    setupWith(func(s *api.ValleySetup) { s.Roots = []string{tooLong} }),
		"an upper-case root": setupWith(func(s *api.ValleySetup) { s.Roots = []string{"Council"} }),
	}
}

func rightSetups() map[string]api.ValleySetup {
	return map[string]api.ValleySetup{
		"of the examples": setup(),
		"day 30000":       setupWith(func(s *api.ValleySetup) { s.Day = 30000 }),
		"1 grower":        setupWith(func(s *api.ValleySetup) { s.Register.Growers = s.Register.Growers[:1] }),
		"8 growers":       setupWith(func(s *api.ValleySetup) { s.Register = growers(8) }),
		"no roots":        setupWith(func(s *api.ValleySetup) { s.Roots = nil }),
		"4 roots":         setupWith(func(s *api.ValleySetup) { s.Roots = []string{"a", "b", "c", long} }),
		"growers as roots": setupWith(func(s *api.ValleySetup) {
			s.Roots = []string{"mo", "any"}
		}),
	}
}

func TestSetups(t *testing.T) {
	for name, s := range wrongSetups() {
		if e := clerk.Check(s); e != api.ErrValley {
			t.Errorf("Check, %s: %d", name, e)
		}
		if v, e := clerk.New(s); v != nil || e != api.ErrValley {
			t.Errorf("New, %s: %v, %d", name, v, e)
		}
		if v, at, e := clerk.Replay(s, []string{"day 7", "sums"}); v != nil || at != 0 || e != api.ErrValley {
			t.Errorf("Replay, %s: %v, %d, %d", name, v, at, e)
		}
	}
	for name, s := range rightSetups() {
		if e := clerk.Check(s); e != api.OK {
			t.Errorf("Check, %s: %d", name, e)
		}
		v := open(t, s)
		same(t, name, all(v), kept{Day: s.Day, Purses: make([]api.ValleyPurse, len(s.Register.Growers))})
	}
}

// TestNoValley is about valleys that New did not return.
func TestNoValley(t *testing.T) {
	real := opened(t, setup(), "day 7; vine va mo 100 40; set va p1; loan mo 5; box x")
	before := all(real)
	copied := *real
	for name, v := range map[string]*clerk.Valley{"nil": nil, "zero": {}, "new": new(clerk.Valley), "copy": &copied} {
		for _, line := range []string{"day 7", "loan mo 5", "sums", "pod p1", "no line", "", strings.Repeat("a", 300)} {
			if answer, e := v.Do(line); answer != "" || e != api.ErrNil {
				t.Errorf("Do(%q), %s: %q, %d", line, name, answer, e)
			}
		}
		same(t, name, all(v), kept{Code: api.ErrNil})
	}
	same(t, "the valley that was copied", all(real), before)
}

// sample is a line of each row, and what its tokens are: a the first one, n a number, w a name, : a colon.
type sample struct{ line, kinds string }

func samples() []sample {
	return []sample{
		{"day 5", "an"}, {"market 5 9", "ann"}, {"vine va mo 100 40", "awwnn"}, {"set va p1", "aww"}, {"prick p1", "aw"}, {"cut p1 3", "awn"},
		{"theft p1", "aw"}, {"weigh p1 20 22", "awnn"}, {"box x", "aw"}, {"put p1 x", "aww"}, {"mould x", "aw"}, {"tin abe 1 : p1 p2", "awn:ww"},
		{"grant council 1 mo fair 0 90 0", "awnwwnnn"}, {"back council 1 2 5", "awnnn"}, {"label abe fair", "aww"}, {"loan mo 50", "awn"},
		{"sell abe ka 10", "awwn"}, {"pod p1", "aw"}, {"trace abe", "aw"}, {"owes mo", "aw"}, {"who fair", "aw"}, {"sums", "a"},
	}
}

// with returns tokens with another one at a place, as a line.
func with(tokens []string, at int, token string) string {
	l := slices.Clone(tokens)
	l[at] = token
	return strings.Join(l, " ")
}

// wrongTokens are tokens that cannot stand at a place of a kind.
func wrongTokens(kind byte) []string {
	switch kind {
	case 'n':
		return []string{"x", ":", "01", "00", "000001", "-1", "-0", "+1", "1000000", "9999999", "18446744073709551617", "1.0", "1e3", "0x1", "1_0", "٣", "1a", "a1", "1\n"}
	case 'w':
		return []string{":"}
	case ':':
		return []string{"::", ":p", ";", "p1", "0", "："}
	}
	return []string{"x", ":", "Day", "DAY", "da", "days", "sum", "POD", "0", "day\t5", "sums\n", "\n"}
}

func TestLinesThatAreNone(t *testing.T) {
	v := open(t, setup())
	var wrong []string
	for _, s := range samples() {
		tokens := strings.Split(s.line, " ")
		for i := range tokens {
			for _, token := range wrongTokens(s.kinds[i]) {
				wrong = append(wrong, with(tokens, i, token))
			}
			wrong = append(wrong, with(tokens, i, ""), with(tokens, i, tokens[i]+" "))
			if i < 5 || tokens[0] != "tin" { // a tin may have fewer pods
				wrong = append(wrong, strings.Join(tokens[:i], " "))
			}
		}
		wrong = append(wrong, " "+s.line, s.line+" ", strings.ReplaceAll(s.line, " ", "\t")+"\t", s.line+" :", s.line+"  x")
		if tokens[0] != "tin" {
			wrong = append(wrong, s.line+" x", s.line+" 0")
		}
	}
	wrong = append(wrong, "", " ", "  ", ":", "tin abe 1 p1", "tin abe : p1", "tin abe 1 :", "tin abe 1 : p1 : p2", "tin abe 1 : : p1", "tin abe 1 2 : p1")
	for _, line := range wrong {
		play(t, v, fails(line, api.ErrClerkLine))
	}
	same(t, "all", all(v), all(open(t, setup())))
}

// TestLinesThatAreSome is about lines that are unusual.
func TestLinesThatAreSome(t *testing.T) {
	v := open(t, setup())
	for _, s := range samples() {
		tokens := strings.Split(s.line, " ")
		for i, kind := range []byte(s.kinds) {
			if kind != 'w' {
				continue
			}
			for _, name := range []string{"::", ":a", "A", "0", "\t", "ä", "\xff", "a\nb", "sums", "-", tooLong} {
				if _, e := v.Do(with(tokens, i, name)); e == api.ErrClerkLine {
					t.Errorf("Do(%q): %d", with(tokens, i, name), e)
				}
			}
		}
	}
	play(t, v,
		fails("day 999999", api.ErrRange), fails("day 100000", api.ErrRange), says("day 0", ""), says("day 10", ""),
		fails("pod "+strings.Repeat("a", 196), api.ErrClerkUnknown), fails("pod "+strings.Repeat("a", 197), api.ErrClerkLine),
		fails("pod "+strings.Repeat("ä", 98), api.ErrClerkUnknown), fails("pod "+strings.Repeat("ä", 98)+"a", api.ErrClerkLine),
		fails("tin abe 1 : "+strings.Repeat("p ", 93)+"pp", api.ErrClerkUnknown), fails("tin abe 1 : "+strings.Repeat("p ", 94)+"p", api.ErrClerkLine),
		fails("pod "+strings.Repeat("a", 1<<20), api.ErrClerkLine),
	)
}

func TestDay(t *testing.T) {
	v := open(t, setup())
	play(t, v,
		says("day 0", ""), fails("day 30001", api.ErrRange), says("day 7", ""), says("day 7", ""), fails("day 6", api.ErrRange), fails("day 0", api.ErrRange),
		says("day 30000", ""), fails("day 29999", api.ErrRange), says("day 30000", ""),
	)
	if v.Day() != 30000 {
		t.Errorf("Day: %d", v.Day())
	}
	late := setup()
	late.Day = 40
	play(t, open(t, late), fails("day 39", api.ErrRange), says("day 41", ""))
}

// pricked are lines by which there are two pods with the marks of their growers.
const pricked = "vine va mo 100 10; vine vb lu 100 10; set va p1; set vb q1; prick p1; prick q1"

func TestMarket(t *testing.T) {
	v := opened(t, setup(), pricked)
	// There is no market at first, not even on the day 0.
	play(t, v, fails("cut p1 3", api.ErrClerkMarket), says("day 5", ""))
	for _, line := range list("market 4 9; market 0 0; market 6 5; market 5 30001; market 30001 30001; market 30001 30000; market 4 3") {
		play(t, v, fails(line, api.ErrRange))
	}
	play(t, v,
		fails("cut p1 3", api.ErrClerkMarket),
		says("market 7 8", ""), fails("cut p1 3", api.ErrClerkMarket), says("day 6", ""), fails("cut p1 3", api.ErrClerkMarket),
		says("day 7", ""), says("cut p1 3", ""), says("day 9", ""), fails("cut q1 28", api.ErrClerkMarket),
		says("market 9 30000", ""), says("market 10 10", ""), fails("cut q1 28", api.ErrClerkMarket),
		says("day 10", ""), says("cut q1 28", ""),
	)
	last := opened(t, setup(), pricked+"; market 0 8; day 8")
	play(t, last, says("cut p1 3", ""), says("day 30000", ""), says("market 30000 30000", ""), says("cut q1 28", ""))
	first := opened(t, setup(), pricked+"; market 0 0")
	play(t, first, says("cut p1 3", ""), says("day 1", ""), fails("cut q1 28", api.ErrClerkMarket))
}

// things are lines by which there are a grower (mo), a vine (va), a pod (pa), a box (xa), and tins (abe, and 1r, which is no word).
const things = "vine va mo 100 10; set va pa; set va pb; set va pc; market 0 9; prick pb; prick pc; cut pb 3; cut pc 3; box xa; put pb xa; put pc xa; " +
	"weigh pb 5 6; weigh pc 1 1; tin abe 0 : pb; tin 1r 0 : pc"

// TestThere is about things that are there: nothing else may have their names.
func TestThere(t *testing.T) {
	v := opened(t, setup(), things)
	for _, name := range list("mo; lu; va; pa; pb; xa; abe; 1r") {
		play(t, v, fails("vine "+name+" mo 10 1", api.ErrClerkTwice), fails("set va "+name, api.ErrClerkTwice), fails("box "+name, api.ErrClerkTwice))
		play(t, v, fails("vine "+name+" nobody 10 1", api.ErrClerkUnknown), fails("set vx "+name, api.ErrClerkUnknown))
	}
	for _, name := range list("abe; 1r") {
		play(t, v, fails("tin "+name+" 99 : pa nobody", api.ErrClerkTwice), fails("tin "+name+" 0 : pa", api.ErrClerkTwice))
	}
	// Names of which there is nothing, and those of other kinds.
	play(t, v,
		says("vine council mo 10 1", "10"), says("set council fair", "1"), says("box market", ""),
		fails("set pa px", api.ErrClerkUnknown), fails("set mo px", api.ErrClerkUnknown), fails("prick va", api.ErrClerkUnknown), fails("prick xa", api.ErrClerkUnknown),
		fails("put pa pb", api.ErrClerkUnknown), fails("mould pa", api.ErrClerkUnknown), fails("loan va 5", api.ErrClerkUnknown), fails("loan council 5", api.ErrClerkUnknown),
		fails("vine vx va 10 1", api.ErrClerkUnknown), fails("owes council", api.ErrClerkUnknown), fails("trace pb", api.ErrClerkUnknown), fails("pod abe", api.ErrClerkUnknown),
		fails("sell pb ka 1", api.ErrClerkUnknown), fails("label xa fair", api.ErrClerkUnknown), says("grant va 1 mo abe 0 9 0", ""),
	)
}

// TestThereOfTins is about codes that are names of something else.
func TestThereOfTins(t *testing.T) {
	for _, lines := range []string{"vine abe mo 10 1", "vine va mo 10 1; set va abe", "box abe"} {
		play(t, opened(t, setup(), lines), fails("tin abe 1 : nobody", api.ErrClerkTwice), fails("tin 1r 1 : nobody", api.ErrClerkUnknown))
	}
	s := setup()
	s.Register.Growers[0].Name = "abe"
	play(t, open(t, s), fails("tin abe 1 : nobody", api.ErrClerkTwice))
}

func TestVine(t *testing.T) {
	v := open(t, setup())
	for _, line := range list("vine Va mo 100 40; vine 1a mo 100 40; vine " + tooLong + " mo 100 40; vine va mo 10001 40; vine va mo 100 0; vine va mo 100 1001; vine va mo 0 0") {
		play(t, v, fails(line, api.ErrForm))
	}
	play(t, v,
		fails("vine Va nobody 10001 0", api.ErrClerkUnknown), fails("vine mo nobody 10001 0", api.ErrClerkUnknown), fails("vine lu mo 10001 0", api.ErrClerkTwice),
		says("vine va mo 100 40", "2"), says("vine vb lu 10000 1", "10000"), says("vine vc lu 0 1000", "0"), says("vine vd mo 1999 1000", "1"),
		says("vine "+long+" mo 39 40", "0"), says("vine vf mo 80 40", "2"), fails("vine va mo 100 40", api.ErrClerkTwice), says("vine vg mo 7 7", "1"), says("vine vh mo 7 1", "7"),
		fails("vine vi mo 7 1", api.ErrFull), fails("vine Vi mo 7 1", api.ErrForm), fails("vine vh mo 7 1", api.ErrClerkTwice), fails("vine vi nobody 7 1", api.ErrClerkUnknown),
	)
	same(t, "Vines", v.Vines(), []api.ValleyVine{
		{Name: "va", Grower: 0, Bears: 2}, {Name: "vb", Grower: 1, Bears: 10000}, {Name: "vc", Grower: 1}, {Name: "vd", Bears: 1},
		{Name: long}, {Name: "vf", Bears: 2}, {Name: "vg", Bears: 1}, {Name: "vh", Bears: 7},
	})
}

func TestSet(t *testing.T) {
	v := opened(t, setup(), "vine va mo 100 1; vine vb lu 3 1; vine vc lu 0 1")
	play(t, v,
		fails("set vx Mo", api.ErrClerkUnknown), fails("set vx mo", api.ErrClerkUnknown), fails("set vc mo", api.ErrClerkTwice), fails("set vc Pa", api.ErrForm), fails("set vc pa", api.ErrFull),
		fails("set va "+tooLong, api.ErrForm), fails("set va 1", api.ErrForm),
		says("set vb pa", "1"), fails("set vb pa", api.ErrClerkTwice), says("set vb pb", "2"), says("set va "+long, "1"), says("set vb pc", "3"),
		fails("set vb pd", api.ErrFull), fails("set vb Pd", api.ErrForm), fails("set vb pc", api.ErrClerkTwice), fails("set va pc", api.ErrClerkTwice),
	)
	same(t, "Vines", v.Vines(), []api.ValleyVine{{Name: "va", Grower: 0, Bears: 100, Set: 1}, {Name: "vb", Grower: 1, Bears: 3, Set: 3}, {Name: "vc", Grower: 1}})
	hangs := func(name string, vine int) api.ValleyPod {
		return api.ValleyPod{Name: name, Vine: vine, State: api.PodHangs, Box: api.NoBox}
	}
	same(t, "Pods", v.Pods(), []api.ValleyPod{hangs("pa", 1), hangs("pb", 1), hangs(long, 0), hangs("pc", 1)})
	for i := range 12 {
		play(t, v, says("set va p"+strconv.Itoa(i), strconv.Itoa(i+2)))
	}
	play(t, v, fails("set va px", api.ErrFull), fails("set va Px", api.ErrForm), fails("set va p0", api.ErrClerkTwice), fails("set vx px", api.ErrClerkUnknown))
	// What was stolen makes no room.
	play(t, v, says("prick pa", ""), says("theft pa", ""), fails("set vb px", api.ErrFull), fails("set va px", api.ErrFull))
}

// allStates are lines by which there is a pod in each state: p1 hangs, p2 is marked, p3 in hand, p4 gone (it hung), p5 in the box x, p6 in a tin, p7 sold, p8 gone (it was cut).
const allStates = "vine va mo 100 10; set va p1; set va p2; set va p3; set va p4; set va p5; set va p6; set va p7; set va p8; " +
	"prick p2; prick p3; prick p4; prick p5; prick p6; prick p7; prick p8; market 0 0; cut p3 3; theft p4; cut p5 3; cut p6 3; cut p7 3; cut p8 3; theft p8; " +
	"box x; box y; put p5 x; put p6 x; put p7 x; weigh p5 3 4; weigh p6 4 6; weigh p7 9 9; tin abe 2 : p6; tin aci 2 : p7; sell aci ka 2"

// TestStates is about what can be done with a pod in each state.
func TestStates(t *testing.T) {
	for line, can := range map[string]string{"prick P": "p1", "cut P 3": "p2", "theft P": "p2 p3", "weigh P 1 50": "p3 p5", "put P x": "p3 p5", "put P y": "p3 p5", "tin 1r 0 : P": "p5"} {
		for i, name := range list("p1; p2; p3; p4; p5; p6; p7; p8") {
			v := opened(t, setup(), allStates)
			play(t, v, says("pod "+name, strconv.Itoa([]int{1, 2, 3, 4, 5, 6, 7, 4}[i])))
			wanted := api.ErrClerkState
			if strings.Contains(can, name) {
				wanted = api.OK
			}
			if _, e := v.Do(strings.Replace(line, "P", name, 1)); e != wanted {
				t.Errorf("%s of %s: %d", line, name, e)
			}
		}
	}
	for _, line := range list("prick px; cut px 3; theft px; weigh px 0 51; put px x; put p1 z; put p3 z; put px z; tin 1r 0 : p5 px; tin 1r 0 : p1 px; pod px") {
		play(t, opened(t, setup(), allStates), fails(line, api.ErrClerkUnknown))
	}
}

func TestCut(t *testing.T) {
	v := opened(t, setup(), "vine va mo 100 10; vine vb lu 100 10; set va pa; set va pb; set va pc; set va pd; set vb qa; set vb qb; prick pa; prick pb; prick pc; prick qa; prick qb")
	// Unknown comes before the state, this before the market, and this before the mark.
	play(t, v, fails("cut px 28", api.ErrClerkUnknown), fails("cut pd 28", api.ErrClerkState), fails("cut pa 28", api.ErrClerkMarket), says("market 3 4", ""), says("day 3", ""))
	for _, dots := range list("28; 0; 4; 5; 7; 31; 32; 35; 4095; 4096; 999999; 12; 24; 20") {
		play(t, v, fails("cut pa "+dots, api.ErrClerkMark))
	}
	for _, dots := range list("3; 1; 2; 0; 4; 8; 16; 29; 60") {
		play(t, v, fails("cut qa "+dots, api.ErrClerkMark))
	}
	play(t, v, says("cut pa 3", ""), says("cut pb 2", ""), fails("cut pa 3", api.ErrClerkState), says("day 4", ""), says("cut pc 1", ""), says("cut qa 28", ""), says("cut qb 12", ""))
	inHand := func(name string, vine, day, read int) api.ValleyPod {
		return api.ValleyPod{Name: name, Vine: vine, State: api.PodInHand, Day: day, Read: read, Box: api.NoBox}
	}
	same(t, "Pods", v.Pods(), []api.ValleyPod{
		inHand("pa", 0, 3, 3), inHand("pb", 0, 3, 2), inHand("pc", 0, 4, 1), {Name: "pd", State: api.PodHangs, Box: api.NoBox}, inHand("qa", 1, 4, 28), inHand("qb", 1, 4, 12),
	})
}

func TestWeigh(t *testing.T) {
	v := opened(t, setup(), allStates)
	for _, weight := range list("0 5; 0 0; 6 5; 1 51; 51 51; 50 49; 51 50; 999999 999999") {
		play(t, v, fails("weigh p3 "+weight, api.ErrRange), fails("weigh p5 "+weight, api.ErrRange), fails("weigh p1 "+weight, api.ErrClerkState), fails("weigh px "+weight, api.ErrClerkUnknown))
	}
	play(t, v, says("weigh p3 1 1", ""), says("weigh p5 50 50", ""), says("weigh p3 1 50", ""))
	if p := v.Pods(); p[2].Weight != (api.Span{Low: 1, High: 50}) || p[4].Weight != (api.Span{Low: 50, High: 50}) || p[5].Weight != (api.Span{Low: 4, High: 6}) {
		t.Errorf("weights: %v", p)
	}
	// A weight stays, whatever becomes of the pod.
	play(t, v, says("put p3 y", ""), says("tin 1r 0 : p3 p5", "51 100"))
	if p := v.Pods(); p[2].Weight != (api.Span{Low: 1, High: 50}) || p[2].State != api.PodTinned {
		t.Errorf("the weight in a tin: %v", p[2])
	}
}

func TestBox(t *testing.T) {
	v := open(t, setup())
	play(t, v,
		fails("box X", api.ErrForm), fails("box "+tooLong, api.ErrForm), says("box xa", ""), fails("box xa", api.ErrClerkTwice), says("box "+long, ""), says("box xc", ""), says("mould xa", "0"), says("box xd", ""),
		fails("box xe", api.ErrFull), fails("box Xe", api.ErrForm), fails("box mo", api.ErrClerkTwice),
	)
	same(t, "Boxes", v.Boxes(), []api.ValleyBox{{Name: "xa", Mould: true}, {Name: long}, {Name: "xc"}, {Name: "xd"}})
}

// cutPods are lines by which so many pods, p1 and so on, were cut, all by mo.
func cutPods(many int) string {
	lines := "market 0 0; vine va mo 100 1"
	for i := range many {
		name := "p" + strconv.Itoa(i+1)
		lines += "; set va " + name + "; prick " + name + "; cut " + name + " 3"
	}
	return lines
}

// boxed are lines by which so many pods lie in the box x, and each weighs its number to one more.
func boxed(many int) string {
	lines := cutPods(many) + "; box x"
	for i := range many {
		name := "p" + strconv.Itoa(i+1)
		lines += "; put " + name + " x; weigh " + name + " " + strconv.Itoa(i+1) + " " + strconv.Itoa(i+2)
	}
	return lines
}

// names are the names of pods from one to another.
func names(from, to int) string {
	var l []string
	for i := from; i <= to; i++ {
		l = append(l, "p"+strconv.Itoa(i))
	}
	return strings.Join(l, " ")
}

func wantBoxes(t *testing.T, v *clerk.Valley, mould ...bool) {
	t.Helper()
	var l []bool
	for _, b := range v.Boxes() {
		l = append(l, b.Mould)
	}
	same(t, "mould", l, mould)
}

func TestMould(t *testing.T) {
	v := opened(t, setup(), cutPods(5)+"; box x; box y; box z")
	play(t, v,
		fails("mould w", api.ErrClerkUnknown), fails("put p1 w", api.ErrClerkUnknown), says("put p1 x", ""), says("put p2 x", ""), says("put p3 y", ""), says("put p1 x", ""),
		says("mould x", "2"), says("mould x", "2"), fails("put p4 x", api.ErrClerkState), fails("put p1 x", api.ErrClerkState), fails("put p3 x", api.ErrClerkState), fails("put p9 x", api.ErrClerkUnknown),
	)
	wantBoxes(t, v, true, false, false)
	// From a box without mould into another one, and out of a hand, no mould comes.
	play(t, v, says("put p3 z", ""), says("put p4 z", ""), says("put p3 y", ""))
	wantBoxes(t, v, true, false, false)
	// From a box with mould it comes; what was put there before has it too, and it stays in the box that was left.
	play(t, v, says("put p1 y", ""), fails("put p2 y", api.ErrClerkState))
	wantBoxes(t, v, true, true, false)
	play(t, v, says("put p3 z", ""), says("mould y", "1"), says("mould x", "1"), says("mould z", "2"))
	wantBoxes(t, v, true, true, true)
	if p := v.Pods(); p[0].Box != 1 || p[1].Box != 0 || p[2].Box != 2 || p[3].Box != 2 || p[4].Box != api.NoBox {
		t.Errorf("boxes of pods: %v", p)
	}
	play(t, v, fails("put p5 z", api.ErrClerkState), says("box w", ""), says("put p5 w", ""))
	wantBoxes(t, v, true, true, true, false)
}

func TestTin(t *testing.T) {
	v := opened(t, setup(), boxed(15)+"; box y")
	play(t, v,
		// What is named first comes first.
		fails("tin aba 10 : nobody nobody", api.ErrForm), fails("tin mo 10 : nobody", api.ErrForm), fails("tin a 0 : p1", api.ErrForm), fails("tin Abe 0 : p1", api.ErrForm),
		fails("tin abe 10 : p1 p1 nobody", api.ErrClerkUnknown), fails("tin abe 0 : nobody p1", api.ErrClerkUnknown), fails("tin abe 0 : x", api.ErrClerkUnknown),
		fails("tin abe 10 : p1 p1", api.ErrRange), fails("tin abe 999999 : p1", api.ErrRange), fails("tin abe 0 : "+names(1, 13), api.ErrRange), fails("tin abe 0 : "+names(1, 12)+" p1", api.ErrRange),
		fails("tin abe 0 : p1 p1", api.ErrClerkState), fails("tin abe 0 : p1 p2 p1", api.ErrClerkState), fails("tin abe 0 : "+names(1, 11)+" p11", api.ErrClerkState),
		says("tin abe 9 : "+names(2, 13), "90 102"),
		fails("tin abe 10 : nobody", api.ErrClerkTwice), fails("tin abe 0 : p1", api.ErrClerkTwice), fails("tin aci 0 : p1 p2", api.ErrClerkState),
		says("tin aci 0 : p14 p1", "15 17"),
	)
	same(t, "Tins", v.Tins(), []api.ValleyTin{
		{Code: "abe", Grade: 9, Pods: []int{1, 2, 3, 4, 5, 6, 7, 8, 9, 10, 11, 12}, Weight: api.Span{Low: 90, High: 102}},
		{Code: "aci", Pods: []int{13, 0}, Weight: api.Span{Low: 15, High: 17}},
	})
	for i, p := range v.Pods() {
		if i == 14 && (p.State != api.PodBoxed || p.Box != 0) || i < 14 && (p.State != api.PodTinned || p.Box != api.NoBox) {
			t.Errorf("the pod %d: %v", i, p)
		}
	}
	play(t, v, says("mould x", "1"), says("mould y", "0"))
}

// TestTinOfWrongPods is about pods that do not fit into a tin, at each place among others.
func TestTinOfWrongPods(t *testing.T) {
	for _, wrong := range list("mould y; theft p4; put p5 x") {
		v := opened(t, setup(), cutPods(5)+"; box x; box y; put p1 x; put p2 x; weigh p1 1 2; weigh p2 3 3; put p3 y; weigh p3 3 4; weigh p4 1 2")
		do(t, v, wrong)
		name := map[string]string{"mould y": "p3", "theft p4": "p4", "put p5 x": "p5"}[wrong]
		for _, pods := range []string{name, name + " p1 p2", "p1 " + name + " p2", "p1 p2 " + name} {
			play(t, v, fails("tin abe 1 : "+pods, api.ErrClerkState), fails("tin abe 10 : "+pods, api.ErrRange))
		}
		play(t, v, says("tin abe 1 : p1 p2", "4 5"))
	}
}

func TestTinsAreFull(t *testing.T) {
	v := opened(t, setup(), boxed(8))
	for i, text := range list("ab; ac; ad; 1; ae; af") {
		sign, _ := tin.Sign(text)
		play(t, v, says("tin "+text+sign+" 0 : p"+strconv.Itoa(i+1), strconv.Itoa(i+1)+" "+strconv.Itoa(i+2)))
	}
	play(t, v, fails("tin aa 0 : p7", api.ErrFull), fails("tin aa 0 : p7 p7", api.ErrClerkState), fails("tin aa 0 : p6", api.ErrClerkState), fails("tin aa 10 : p7", api.ErrRange), fails("tin aa 0 : p7 nobody", api.ErrClerkUnknown))
}

func TestNotes(t *testing.T) {
	v := open(t, setup())
	for _, line := range list("grant Mo 1 lu fair 0 9 0; grant 1 1 lu fair 0 9 0; grant mo 0 lu fair 0 9 0; grant mo 1001 lu fair 0 9 0; grant mo 1 mo fair 0 9 0; grant mo 1 Lu fair 0 9 0; " +
		"grant mo 1 lu Fair 0 9 0; grant mo 1 lu fair 5 4 0; grant mo 1 lu fair 0 30001 0; grant mo 1 lu fair 30001 30001 0; grant mo 1 lu fair 0 9 6; grant " + tooLong + " 1 lu fair 0 9 0; " +
		"back Mo 1 1 5; back mo 0 1 5; back mo 1001 1 5; back mo 1 0 5; back mo 1 1001 5; back mo 1 1 30001") {
		play(t, v, fails(line, api.ErrForm))
	}
	for i := range 36 {
		do(t, v, "grant council "+strconv.Itoa(i+10)+" mo other 0 9 0")
	}
	// The last four notes: one comes twice, and counts twice.
	play(t, v,
		says("grant council 1 mo fair 0 90 0", ""), says("who fair", "council mo"), says("grant council 1 mo fair 0 90 0", ""), says("who fair", "council mo"),
		says("back council 2 1 7", ""), says("who fair", "council mo"), says("day 6", ""), says("who fair", "council mo"), says("day 7", ""), says("who fair", "council"), says("who other", "council mo"),
		says("grant "+long+" 1000 other fair 30000 30000 5", ""),
		fails("grant council 1 mo fair 0 90 0", api.ErrFull), fails("back council 4 1 7", api.ErrFull), fails("grant council 3 mo fair 9 0 0", api.ErrForm), fails("back council 4 0 7", api.ErrForm),
	)
}

// TestNotesHandedOn is about what each letter of the lines means.
func TestNotesHandedOn(t *testing.T) {
	v := opened(t, setup(), "grant council 7 coop fair 2 5 1; grant coop 8 mo fair 3 4 0; grant mo 9 lu fair 0 90 5; day 2")
	play(t, v,
		says("who fair", "coop council"), says("day 3", ""), says("who fair", "coop council mo"), says("day 4", ""), says("who fair", "coop council mo"),
		says("back coop 10 8 4", ""), says("who fair", "coop council"), says("day 5", ""), says("who fair", "coop council"), says("day 6", ""), says("who fair", "council"),
	)
	// Whoever writes two different notes of one number is a liar.
	liar := opened(t, setup(), "grant council 1 mo fair 0 90 0")
	play(t, liar, says("who fair", "council mo"), says("grant council 1 mo fair 0 91 0", ""), says("who fair", "council"))
}

// soldLater are lines by which the tin abe has p1 of mo, cut on the day 5, and q1 of lu, cut on the day 8.
const soldLater = pricked + "; market 5 9; day 5; cut p1 3; day 8; cut q1 28; box x; put p1 x; put q1 x; weigh p1 10 11; weigh q1 20 25; tin abe 3 : q1 p1"

func TestLabel(t *testing.T) {
	v := opened(t, setup(), soldLater)
	play(t, v,
		fails("label nobody Fair", api.ErrClerkUnknown), fails("label abe Fair", api.ErrForm), fails("label abe "+tooLong, api.ErrForm), fails("label abe fair", api.ErrClerkLabel),
		says("grant council 1 mo fair 5 5 0", ""), fails("label abe fair", api.ErrClerkLabel), says("grant council 2 lu fair 0 7 0", ""), fails("label abe fair", api.ErrClerkLabel),
		says("grant council 3 lu fair 8 8 0", ""), says("day 100", ""), says("who fair", "council"), says("label abe fair", "1"), fails("label abe fair", api.ErrClerkTwice), fails("label abe shade", api.ErrClerkLabel),
		says("grant council 4 lu shade 0 90 0", ""), says("grant council 5 mo shade 0 90 0", ""), says("sell abe ka 1", "30 0"), says("label abe shade", "2"),
		// What is on a label stays there, and is not put there again, even if the claim does not hold any more.
		says("back council 6 1 0", ""), fails("label abe fair", api.ErrClerkTwice), fails("label nobody fair", api.ErrClerkUnknown),
		says("grant council 7 lu a 0 90 0", ""), says("grant council 8 mo a 0 90 0", ""), says("label abe a", "3"),
	)
	same(t, "Claims", v.Tins()[0].Claims, []string{"fair", "shade", "a"})
	// A root holds all claims.
	s := setup()
	s.Roots = []string{"lu", "mo"}
	play(t, opened(t, s, soldLater), says("label abe anything", "1"))
	s.Roots = []string{"lu"}
	play(t, opened(t, s, soldLater), fails("label abe anything", api.ErrClerkLabel))
}

func TestLoan(t *testing.T) {
	v := open(t, setup())
	play(t, v,
		fails("loan nobody 0", api.ErrClerkUnknown), fails("loan council 5", api.ErrClerkUnknown), fails("loan mo 0", api.ErrRange), fails("loan mo 10001", api.ErrRange), fails("loan mo 999999", api.ErrRange),
		says("loan mo 1", "1"), says("loan lu 10000", "10000"), says("loan lu 10000", "20000"), says("loan mo 5", "6"), says("owes mo", "6 0"), says("owes lu", "20000 0"), says("sums", "20006 0 0 0"),
	)
	same(t, "Purses", v.Purses(), []api.ValleyPurse{{Loan: 6}, {Loan: 20000}})
	if v.Sums() != (api.ValleySums{Lent: 20006}) {
		t.Errorf("Sums: %v", v.Sums())
	}
}

// ofThree are lines by which three tins have pods of three growers: abe of mo (2 pods of 1 and 3 grams), lu (5) and zo (2), aci of lu (7), 1r of zo (1) and mo (1).
const ofThree = "market 0 9; vine vc zo 10 1; vine va mo 10 1; vine vb lu 10 1; box x; " +
	"set va a1; set va a2; set va a3; set vb b1; set vb b2; set vc c1; set vc c2; prick a1; prick a2; prick a3; prick b1; prick b2; prick c1; prick c2; day 2; " +
	"cut a1 7; cut a2 5; cut a3 6; cut b1 56; cut b2 24; cut c1 192; cut c2 128; put a1 x; put a2 x; put a3 x; put b1 x; put b2 x; put c1 x; put c2 x; " +
	"weigh a1 1 9; weigh a2 3 3; weigh a3 1 1; weigh b1 5 50; weigh b2 7 8; weigh c1 2 2; weigh c2 1 50; " +
	"tin abe 1 : c1 a1 b1 a2; tin aci 0 : b2; tin 1r 9 : c2 a3"

func TestSell(t *testing.T) {
	v := opened(t, three(), ofThree+"; loan lu 20; loan zo 5; loan zo 7; day 3")
	play(t, v,
		fails("sell nobody Ka 1001", api.ErrClerkUnknown), fails("sell abe Ka 1001", api.ErrForm), fails("sell abe "+tooLong+" 1", api.ErrForm), fails("sell abe ka 1001", api.ErrRange), fails("sell abe ka 999999", api.ErrRange),
		// 11 grams: mo 4, lu 5, zo 2; 33 cents: 12, 15, 6; lu pays all back, and zo too.
		says("sell abe ka 3", "12 21"), fails("sell abe Ka 1001", api.ErrClerkState), fails("sell abe ka 3", api.ErrClerkState),
		says("owes mo", "0 12"), says("owes lu", "5 0"), says("owes zo", "6 0"), says("sums", "32 21 12 33"),
	)
	same(t, "Purses", v.Purses(), []api.ValleyPurse{{Paid: 12}, {Loan: 5}, {Loan: 6}})
	do(t, v, "day 4")
	play(t, v,
		says("sell aci "+long+" 1", "2 5"), says("owes lu", "0 2"), says("sell 1r mo 1000", "1994 6"), says("owes zo", "0 994"), says("owes mo", "0 1012"), says("sums", "32 32 2008 2040"),
		says("pod a1", "7"), says("pod b2", "7"), says("pod c2", "7"), says("loan lu 5", "5"), says("owes lu", "5 2"),
	)
	sold := v.Marks()[14:]
	note := func(id int, pod, who string, day, read int, buyer string) api.MarkNote {
		return api.MarkNote{Id: id, Kind: api.NoteSell, Pod: pod, Who: who, Day: day, Read: read, Buyer: buyer}
	}
	same(t, "notes of sales", sold, []api.MarkNote{
		note(15, "c1", "zo", 3, 192, "ka"), note(16, "a1", "mo", 3, 7, "ka"), note(17, "b1", "lu", 3, 56, "ka"), note(18, "a2", "mo", 3, 5, "ka"),
		note(19, "b2", "lu", 4, 24, long), note(20, "c2", "zo", 4, 128, "mo"), note(21, "a3", "mo", 4, 6, "mo"),
	})
	if l := v.Tins(); l[0].Buyer != "ka" || l[1].Buyer != long || l[2].Buyer != "mo" {
		t.Errorf("buyers: %v", l)
	}
}

// TestSellForNothing is about a price of 0, and the greatest one.
func TestSellForNothing(t *testing.T) {
	v := opened(t, setup(), soldLater+"; loan mo 5")
	play(t, v, says("sell abe ka 0", "0 0"), says("owes mo", "5 0"), says("pod p1", "7"), says("sums", "5 0 0 0"), fails("sell abe ka 0", api.ErrClerkState))
	heavy := opened(t, setup(), cutPods(12)+"; box x")
	for i := range 12 {
		name := "p" + strconv.Itoa(i+1)
		do(t, heavy, "weigh "+name+" 50 50; put "+name+" x")
	}
	do(t, heavy, "loan mo 10000; tin abe 0 : "+names(1, 12))
	play(t, heavy, says("sell abe ka 1000", "590000 10000"), says("owes mo", "0 590000"), says("sums", "10000 10000 590000 600000"))
}

func TestQuestions(t *testing.T) {
	v := opened(t, three(), ofThree)
	play(t, v,
		says("trace abe", "c1 vc zo a1 va mo b1 vb lu a2 va mo"), says("trace aci", "b2 vb lu"), says("trace 1r", "c2 vc zo a3 va mo"), fails("trace nobody", api.ErrClerkUnknown), fails("trace c1", api.ErrClerkUnknown),
		says("who fair", "council lu"), fails("who Fair", api.ErrForm), fails("who "+tooLong, api.ErrForm), fails("who 1", api.ErrForm), says("who "+long, "council lu"),
		fails("owes nobody", api.ErrClerkUnknown), says("owes zo", "0 0"), says("sums", "0 0 0 0"), fails("pod nobody", api.ErrClerkUnknown),
	)
	s := setup()
	s.Roots = nil
	play(t, open(t, s), says("who fair", ""), fails("who Fair", api.ErrForm))
	// Questions are not in the journal.
	same(t, "Journal", v.Journal(), list(ofThree))
}

// TestJournalIsFull is about the limit of 1000 lines.
func TestJournalIsFull(t *testing.T) {
	v := opened(t, setup(), things)
	for i := len(v.Journal()); i < 999; i++ {
		do(t, v, "day 3")
		if _, e := v.Do("day 2"); e != api.ErrRange {
			t.Fatalf("a day that is over: %d", e)
		}
	}
	play(t, v, says("loan mo 7", "7"), fails("loan mo 7", api.ErrFull), fails("day 2", api.ErrFull), fails("day 3", api.ErrFull), fails("prick nobody", api.ErrFull), fails("sell abe ka 1", api.ErrFull))
	// A line that is none is still none, and questions are answered.
	play(t, v, fails("day 03", api.ErrClerkLine), fails("nothing", api.ErrClerkLine), says("sums", "7 0 0 0"), says("pod pa", "1"), fails("pod px", api.ErrClerkUnknown), says("who fair", "council"), says("trace abe", "pb va mo"), says("owes mo", "7 0"))
	journal := v.Journal()
	if len(journal) != 1000 {
		t.Fatalf("Journal: %d lines", len(journal))
	}
	again, at, e := clerk.Replay(setup(), journal)
	if again == nil || at != 1000 || e != api.OK {
		t.Fatalf("Replay: %v, %d, %d", again, at, e)
	}
	same(t, "again", all(again), all(v))
	wantReplay(t, append(journal, "day 3"), 1000, api.ErrFull)
	wantReplay(t, append(journal, "sums"), 1000, api.ErrClerkLine)
	wantReplay(t, append(journal, "day"), 1000, api.ErrClerkLine)
}

// wantReplay compares what is returned of lines that cannot be replayed.
func wantReplay(t *testing.T, lines []string, at int, code api.Errno) {
	t.Helper()
	if v, i, e := clerk.Replay(setup(), lines); v != nil || i != at || e != code {
		t.Errorf("Replay up to %q: %v, %d, %d instead of %d, %d", lines[at], v, i, e, at, code)
	}
}

func TestReplay(t *testing.T) {
	for _, lines := range [][]string{nil, {}} {
		v, at, e := clerk.Replay(setup(), lines)
		if v == nil || at != 0 || e != api.OK {
			t.Fatalf("Replay of nothing: %v, %d, %d", v, at, e)
		}
		same(t, "all", all(v), all(open(t, setup())))
		play(t, v, says("day 4", ""), says("sums", "0 0 0 0"))
	}
	lines := list(things)
	v, at, e := clerk.Replay(setup(), lines)
	if v == nil || at != len(lines) || e != api.OK {
		t.Fatalf("Replay: %v, %d, %d", v, at, e)
	}
	same(t, "all", all(v), all(opened(t, setup(), things)))
	for line, code := range map[string]api.Errno{
		"sums": api.ErrClerkLine, "pod pb": api.ErrClerkLine, "pod nobody": api.ErrClerkLine, "owes mo": api.ErrClerkLine, "who fair": api.ErrClerkLine, "who Fair": api.ErrClerkLine, "trace abe": api.ErrClerkLine,
		"sums sums": api.ErrClerkLine, "": api.ErrClerkLine, "day x": api.ErrClerkLine, "day 30001": api.ErrRange, "loan nobody 5": api.ErrClerkUnknown, "box mo": api.ErrClerkTwice,
	} {
		wantReplay(t, append(slices.Clone(lines), line, "box xz", "box xz"), len(lines), code)
		wantReplay(t, append([]string{"day 0", line}, lines...), 1, code)
	}
	wantReplay(t, append(slices.Clone(lines), "prick pb"), len(lines), api.ErrClerkState)
	wantReplay(t, []string{"sums"}, 0, api.ErrClerkLine)
}

func TestList(t *testing.T) {
	v := open(t, three())
	if s, e := v.List(); s != "" || e != api.OK {
		t.Errorf("List of nothing: %q, %d", s, e)
	}
	do(t, v, ofThree)
	const text = "tin abe 1 11 a1 a2 b1 c1\ntin aci 0 7 b2\ntin 1r 9 2 a3 c2\n"
	if s, e := v.List(); s != text || e != api.OK {
		t.Errorf("List: %q, %d", s, e)
	}
	// Words are compared byte by byte: p10 comes before p2; what was sold is on the list too.
	many := opened(t, setup(), boxed(12)+"; tin abe 9 : "+names(1, 12)+"; sell abe ka 1")
	if s, e := many.List(); s != "tin abe 9 78 p1 p10 p11 p12 p2 p3 p4 p5 p6 p7 p8 p9\n" || e != api.OK {
		t.Errorf("List of many pods: %q, %d", s, e)
	}
	same(t, "the pods of the tin", many.Tins()[0].Pods, []int{0, 1, 2, 3, 4, 5, 6, 7, 8, 9, 10, 11})
}

// TestArguments is about arguments: they are only read, and not retained.
func TestArguments(t *testing.T) {
	s, lines := three(), list(ofThree)
	v := open(t, s)
	replayed, _, _ := clerk.Replay(s, lines)
	if !reflect.DeepEqual(s, three()) || !slices.Equal(lines, list(ofThree)) {
		t.Errorf("the arguments were changed: %v, %v", s, lines)
	}
	s.Day, s.Register.Lost = 9, 0
	for i := range s.Register.Growers {
		s.Register.Growers[i] = api.Grower{Name: "nobody", Mark: 1}
	}
	s.Roots[0], s.Roots[1] = "nobody", "none"
	clear(lines)
	play(t, v, says("day 0", ""), fails("loan nobody 5", api.ErrClerkUnknown), says("who fair", "council lu"))
	do(t, v, strings.Replace(ofThree, "day 2", "day 0; day 2", 1))
	play(t, v, says("trace abe", "c1 vc zo a1 va mo b1 vb lu a2 va mo"), says("sell abe ka 3", "33 0"))
	play(t, replayed, says("trace abe", "c1 vc zo a1 va mo b1 vb lu a2 va mo"), says("sell abe ka 3", "33 0"))
	same(t, "the journal of what was replayed", replayed.Journal(), append(list(ofThree), "sell abe ka 3"))
	// A line may be a part of a longer text, which is not kept.
	text := []byte("box long\nbox other")
	do(t, v, unsafe.String(&text[0], 8))
	clear(text)
	if l, b := v.Journal(), v.Boxes(); l[len(l)-1] != "box long" || b[1].Name != "long" {
		t.Errorf("a text that is used again: %q, %v", l[len(l)-1], b)
	}
}

// overwrite writes into all of a list, and behind it.
func overwrite[T any](l []T) { clear(l[:cap(l)]) }

// TestResults is about results: they are new memory. What they should be is told by a valley in which the same was done.
func TestResults(t *testing.T) {
	const lines = ofThree + "; label aci fair; loan mo 5; sell abe ka 3"
	v, twin := opened(t, three(), lines), opened(t, three(), lines)
	if cap(v.Journal()) != len(v.Journal()) || cap(v.Pods()) != len(v.Pods()) || cap(v.Tins()[0].Pods) != 4 || cap(v.Marks()) != len(v.Marks()) {
		t.Errorf("there is room behind a list")
	}
	for _, c := range v.Tins() {
		overwrite(c.Pods)
		overwrite(c.Claims)
	}
	overwrite(v.Journal())
	overwrite(v.Vines())
	overwrite(v.Pods())
	overwrite(v.Boxes())
	overwrite(v.Tins())
	overwrite(v.Purses())
	overwrite(v.Marks())
	same(t, "all", all(v), all(twin))
	// Lists of one result do not share memory either.
	l := v.Tins()
	overwrite(l[0].Pods)
	same(t, "the pods of the second tin", l[1].Pods, []int{4})
	same(t, "the pods of the third tin", l[2].Pods, []int{6, 2})
	// What was returned does not change later.
	early := all(v)
	do(t, v, "label aci shade; loan lu 5; loan mo 5; day 5; sell aci ka 1; box y; mould x; set va d1; prick d1")
	same(t, "what was returned before", early, all(twin))
	if reflect.DeepEqual(all(v), early) {
		t.Errorf("nothing has changed")
	}
}
