package clerk_test

// The properties, and what lines do, against books that are kept by the document's words, for random lines.

import (
	"fmt"
	"math/rand/v2"
	"regexp"
	"slices"
	"strconv"
	"strings"
	"testing"

	"rostellum/api"
	"rostellum/clerk"
	"rostellum/credit"
	"rostellum/mark"
	"rostellum/seal"
	"rostellum/tin"
	"rostellum/vine"
)

// forms are the tables of the document; a question has a mark at its end.
var forms = []string{
	"day N", "market A B", "vine V G A B", "set V P", "prick P", "cut P N", "theft P", "weigh P A B", "box X", "put P X", "mould X", "tin C N : P..",
	"grant G N T K A B D", "back G N A B", "label C K", "loan G N", "sell C W N", "pod P ?", "trace C ?", "owes G ?", "who K ?", "sums ?",
}

// patternOf returns a pattern of the lines of a form, with a group for each letter.
func patternOf(form string) *regexp.Regexp {
	form = strings.TrimSuffix(form, " ?")
	var b strings.Builder
	for i, token := range strings.Split(form, " ") {
		switch {
		case i == 0 || token == ":":
			b.WriteString(" " + token)
		case strings.Contains("NABD", token):
			b.WriteString(" (?P<" + token + ">0|[1-9][0-9]{0,5})")
		case token == "P..":
			b.WriteString(" (?P<Ps>[^ ]+( [^ ]+)*)")
		default:
			b.WriteString(" (?P<" + token + ">[^ ]+)")
		}
	}
	return regexp.MustCompile(`\A` + b.String()[1:] + `\z`)
}

// said is a line by the table: its first token, whether it is a question, and what the letters stand for.
type said struct {
	first    string
	question bool
	word     map[string]string
	n        map[string]int
	pods     []string
}

var patterns = func() map[string]*regexp.Regexp {
	m := map[string]*regexp.Regexp{}
	for _, form := range forms {
		m[form] = patternOf(form)
	}
	return m
}()

// understand returns what a line says; false if it is none.
func understand(line string) (said, bool) {
	for _, form := range forms {
		found := patterns[form].FindStringSubmatch(line)
		if found == nil || len(line) > 200 {
			continue
		}
		s := said{first: strings.Split(form, " ")[0], question: strings.HasSuffix(form, "?"), word: map[string]string{}, n: map[string]int{}}
		for i, name := range patterns[form].SubexpNames() {
			switch {
			case name == "":
			case name == "Ps":
				s.pods = strings.Split(found[i], " ")
			case strings.Contains("NABD", name):
				s.n[name], _ = strconv.Atoi(found[i])
			default:
				s.word[name] = found[i]
			}
		}
		for _, name := range s.word {
			if name == ":" {
				return said{}, false
			}
		}
		return s, !slices.Contains(s.pods, ":")
	}
	return said{}, false
}

// wpod, wbox, wtin and wvine are things in a world.
type wvine struct {
	name, grower string
	bears        int
	pods         []*wpod
}

type wpod struct {
	name      string
	vine      *wvine
	state     int
	day, read int
	low, high int
	box       *wbox
}

type wbox struct {
	name  string
	mould bool
}

type wtin struct {
	code   string
	grade  int
	pods   []*wpod
	claims []string
	buyer  string
}

// world is a valley by the document's words.
type world struct {
	setup            api.ValleySetup
	day              int
	hasMarket        bool
	marketA, marketB int
	vines            []*wvine
	pods             []*wpod
	boxes            []*wbox
	tins             []*wtin
	loan, paid       map[string]int
	lent, back, got  int
	notes            []api.SealNote
	marks            []api.MarkNote
	journal          []string
}

func newWorld(s api.ValleySetup) *world {
	return &world{setup: s, day: s.Day, loan: map[string]int{}, paid: map[string]int{}}
}

// get returns the thing with a name; nil if there is none.
func get[T any](l []*T, name string, nameOf func(*T) string) *T {
	for _, x := range l {
		if nameOf(x) == name {
			return x
		}
	}
	return nil
}

func (w *world) vine(name string) *wvine {
	return get(w.vines, name, func(v *wvine) string { return v.name })
}
func (w *world) pod(name string) *wpod {
	return get(w.pods, name, func(p *wpod) string { return p.name })
}
func (w *world) box(name string) *wbox {
	return get(w.boxes, name, func(b *wbox) string { return b.name })
}
func (w *world) tin(code string) *wtin {
	return get(w.tins, code, func(t *wtin) string { return t.code })
}

func (w *world) isGrower(name string) bool {
	return slices.ContainsFunc(w.setup.Register.Growers, func(g api.Grower) bool { return g.Name == name })
}

func (w *world) isThere(name string) bool {
	return w.isGrower(name) || w.vine(name) != nil || w.pod(name) != nil || w.box(name) != nil || w.tin(name) != nil
}

// errorOf returns the first error of the row of a line.
func (w *world) errorOf(s said) api.Errno {
	for _, x := range w.errors(s) {
		if x.applies() {
			return x.code
		}
	}
	return api.OK
}

// reason is an error, and whether it applies.
type reason struct {
	code    api.Errno
	applies func() bool
}

// errors are those of the row of a line, in order.
func (w *world) errors(s said) []reason {
	n, a, b := s.n["N"], s.n["A"], s.n["B"]
	p, v, x, c := w.pod(s.word["P"]), w.vine(s.word["V"]), w.box(s.word["X"]), w.tin(s.word["C"])
	is := func(code api.Errno, applies bool) reason { return reason{code, func() bool { return applies }} }
	when := func(code api.Errno, applies func() bool) reason { return reason{code, applies} }
	noGrower := is(api.ErrClerkUnknown, !w.isGrower(s.word["G"]))
	noPod := is(api.ErrClerkUnknown, p == nil)
	noTin := is(api.ErrClerkUnknown, c == nil)
	notIn := func(states ...int) reason {
		return when(api.ErrClerkState, func() bool { return !slices.Contains(states, p.state) })
	}
	switch s.first {
	case "day":
		return []reason{is(api.ErrRange, n < w.day || n > 30000)}
	case "market":
		return []reason{is(api.ErrRange, a < w.day || a > b || b > 30000)}
	case "vine":
		return []reason{noGrower, is(api.ErrClerkTwice, w.isThere(s.word["V"])), is(api.ErrForm, !vine.IsWord(s.word["V"]) || a > 10000 || b < 1 || b > 1000), is(api.ErrFull, len(w.vines) == 8)}
	case "set":
		return []reason{is(api.ErrClerkUnknown, v == nil), is(api.ErrClerkTwice, w.isThere(s.word["P"])), is(api.ErrForm, !vine.IsWord(s.word["P"])),
			when(api.ErrFull, func() bool { return len(v.pods) >= v.bears || len(w.pods) == 16 })}
	case "prick":
		return []reason{noPod, notIn(1)}
	case "cut":
		return []reason{noPod, notIn(2), is(api.ErrClerkMarket, !w.hasMarket || w.day < w.marketA || w.day > w.marketB), when(api.ErrClerkMark, func() bool {
			i, e := mark.Read(w.setup.Register, n)
			return e != api.OK || w.setup.Register.Growers[i].Name != p.vine.grower
		})}
	case "theft":
		return []reason{noPod, notIn(2, 3)}
	case "weigh":
		return []reason{noPod, notIn(3, 5), is(api.ErrRange, a < 1 || a > b || b > 50)}
	case "box":
		return []reason{is(api.ErrClerkTwice, w.isThere(s.word["X"])), is(api.ErrForm, !vine.IsWord(s.word["X"])), is(api.ErrFull, len(w.boxes) == 4)}
	case "put":
		return []reason{noPod, is(api.ErrClerkUnknown, x == nil), notIn(3, 5), when(api.ErrClerkState, func() bool { return x.mould })}
	case "mould":
		return []reason{is(api.ErrClerkUnknown, x == nil)}
	case "tin":
		return w.tinErrors(s)
	case "grant", "back":
		return []reason{is(api.ErrForm, seal.Check([]api.SealNote{noteOf(s)}) != api.OK), is(api.ErrFull, len(w.notes) == 40)}
	case "label":
		return []reason{noTin, is(api.ErrForm, !vine.IsWord(s.word["K"])), when(api.ErrClerkTwice, func() bool { return slices.Contains(c.claims, s.word["K"]) }),
			when(api.ErrClerkLabel, func() bool { return !w.holdsForAll(c, s.word["K"]) })}
	case "loan":
		return []reason{noGrower, is(api.ErrRange, n == 0 || n > 10000)}
	case "sell":
		return []reason{noTin, when(api.ErrClerkState, func() bool { return c.buyer != "" }), is(api.ErrForm, !vine.IsWord(s.word["W"])), is(api.ErrRange, n > 1000)}
	case "pod":
		return []reason{noPod}
	case "trace":
		return []reason{noTin}
	case "owes":
		return []reason{noGrower}
	case "who":
		return []reason{is(api.ErrForm, !vine.IsWord(s.word["K"]))}
	}
	return nil
}

func (w *world) tinErrors(s said) []reason {
	var unknown, wrong bool
	for i, name := range s.pods {
		p := w.pod(name)
		unknown = unknown || p == nil
		wrong = wrong || p == nil || slices.Contains(s.pods[:i], name) || p.state != 5 || p.low == 0 || p.box.mould
	}
	is := func(code api.Errno, applies bool) reason { return reason{code, func() bool { return applies }} }
	return []reason{
		is(api.ErrForm, !tin.IsCode(s.word["C"])), is(api.ErrClerkTwice, w.isThere(s.word["C"])), is(api.ErrClerkUnknown, unknown),
		is(api.ErrRange, s.n["N"] > 9 || len(s.pods) > 12), is(api.ErrClerkState, wrong), is(api.ErrFull, len(w.tins) == 6),
	}
}

func noteOf(s said) api.SealNote {
	if s.first == "back" {
		return api.SealNote{Kind: 2, By: s.word["G"], Seq: s.n["N"], Of: s.n["A"], From: s.n["B"]}
	}
	return api.SealNote{Kind: 1, By: s.word["G"], Seq: s.n["N"], To: s.word["T"], Claim: s.word["K"], From: s.n["A"], Until: s.n["B"], Depth: s.n["D"]}
}

// holdsForAll reports whether the growers of all pods of a tin held a claim when they were cut.
func (w *world) holdsForAll(c *wtin, claim string) bool {
	for _, p := range c.pods {
		if _, e := seal.Chain(w.setup.Roots, w.notes, claim, p.vine.grower, p.day); e != api.OK {
			return false
		}
	}
	return true
}

// do does a line by the document's words.
func (w *world) do(line string) (string, api.Errno) {
	s, ok := understand(line)
	if !ok {
		return "", api.ErrClerkLine
	}
	if !s.question && len(w.journal) == 1000 {
		return "", api.ErrFull
	}
	if e := w.errorOf(s); e != api.OK {
		return "", e
	}
	if s.question {
		return w.ask(s), api.OK
	}
	w.journal = append(w.journal, line)
	return w.happen(s), api.OK
}

func (w *world) ask(s said) string {
	switch s.first {
	case "pod":
		return fmt.Sprint(w.pod(s.word["P"]).state)
	case "trace":
		var l []string
		for _, p := range w.tin(s.word["C"]).pods {
			l = append(l, p.name+" "+p.vine.name+" "+p.vine.grower)
		}
		return strings.Join(l, " ")
	case "owes":
		return fmt.Sprint(w.loan[s.word["G"]], w.paid[s.word["G"]])
	case "who":
		l, _ := seal.Holders(w.setup.Roots, w.notes, s.word["K"], w.day)
		return strings.Join(l, " ")
	}
	return fmt.Sprint(w.lent, w.back, w.got-w.back, w.got)
}

// happen does what happens, and returns the answer.
func (w *world) happen(s said) string {
	n, a, b := s.n["N"], s.n["A"], s.n["B"]
	p, v, x, c, grower := w.pod(s.word["P"]), w.vine(s.word["V"]), w.box(s.word["X"]), w.tin(s.word["C"]), s.word["G"]
	switch s.first {
	case "day":
		w.day = n
	case "market":
		w.hasMarket, w.marketA, w.marketB = true, a, b
	case "vine":
		w.vines = append(w.vines, &wvine{name: s.word["V"], grower: grower, bears: a / b})
		return fmt.Sprint(a / b)
	case "set":
		p = &wpod{name: s.word["P"], vine: v, state: 1}
		w.pods, v.pods = append(w.pods, p), append(v.pods, p)
		return fmt.Sprint(len(v.pods))
	case "prick":
		p.state = 2
		w.tell(api.NotePrick, p, "")
	case "cut":
		p.state, p.day, p.read = 3, w.day, n
		w.tell(api.NoteCut, p, "")
	case "theft":
		p.state = 4
		w.tell(api.NoteTheft, p, "")
	case "weigh":
		p.low, p.high = a, b
	case "box":
		w.boxes = append(w.boxes, &wbox{name: s.word["X"]})
	case "put":
		if p.box != nil && p.box.mould {
			x.mould = true
		}
		p.state, p.box = 5, x
	case "mould":
		x.mould = true
		return fmt.Sprint(w.podsIn(x))
	case "tin":
		return w.fill(s)
	case "grant", "back":
		w.notes = append(w.notes, noteOf(s))
	case "label":
		c.claims = append(c.claims, s.word["K"])
		return fmt.Sprint(len(c.claims))
	case "loan":
		w.loan[grower] += n
		w.lent += n
		return fmt.Sprint(w.loan[grower])
	case "sell":
		return w.sell(c, s.word["W"], n)
	}
	return ""
}

func (w *world) tell(kind int, p *wpod, buyer string) {
	n := api.MarkNote{Id: len(w.marks) + 1, Kind: kind, Pod: p.name, Who: p.vine.grower, Day: w.day, Buyer: buyer}
	if kind == api.NoteSell {
		n.Read = p.read
	}
	w.marks = append(w.marks, n)
}

func (w *world) podsIn(x *wbox) int {
	many := 0
	for _, p := range w.pods {
		if p.box == x {
			many++
		}
	}
	return many
}

func (w *world) fill(s said) string {
	c := &wtin{code: s.word["C"], grade: s.n["N"]}
	for _, name := range s.pods {
		p := w.pod(name)
		p.state, p.box = 6, nil
		c.pods = append(c.pods, p)
	}
	w.tins = append(w.tins, c)
	return fmt.Sprint(c.low(), c.high())
}

func (c *wtin) low() int {
	grams := 0
	for _, p := range c.pods {
		grams += p.low
	}
	return grams
}

func (c *wtin) high() int {
	grams := 0
	for _, p := range c.pods {
		grams += p.high
	}
	return grams
}

func (w *world) sell(c *wtin, buyer string, price int) string {
	shares := make([]int, len(w.setup.Register.Growers))
	for i, g := range w.setup.Register.Growers {
		for _, p := range c.pods {
			if p.vine.grower == g.Name {
				shares[i] += p.low
			}
		}
	}
	gets, _ := credit.Share(price*c.low(), shares)
	out, back := 0, 0
	for i, g := range w.setup.Register.Growers {
		for range gets[i] { // cent by cent
			if w.loan[g.Name] > 0 {
				w.loan[g.Name]--
				back++
			} else {
				w.paid[g.Name]++
				out++
			}
		}
	}
	w.back += back
	w.got += price * c.low()
	c.buyer = buyer
	for _, p := range c.pods {
		p.state = 7
		w.tell(api.NoteSell, p, buyer)
	}
	return fmt.Sprint(out, back)
}

// kept is what a valley should show.
func (w *world) kept() kept {
	k := kept{Journal: w.journal, Day: w.day, Marks: w.marks, Sums: api.ValleySums{Lent: w.lent, Back: w.back, Out: w.got - w.back, Got: w.got}}
	for _, v := range w.vines {
		i := slices.IndexFunc(w.setup.Register.Growers, func(g api.Grower) bool { return g.Name == v.grower })
		k.Vines = append(k.Vines, api.ValleyVine{Name: v.name, Grower: i, Bears: v.bears, Set: len(v.pods)})
	}
	for _, p := range w.pods {
		box := -1
		if p.box != nil {
			box = slices.Index(w.boxes, p.box)
		}
		k.Pods = append(k.Pods, api.ValleyPod{Name: p.name, Vine: slices.Index(w.vines, p.vine), State: p.state, Day: p.day, Read: p.read, Weight: api.Span{Low: p.low, High: p.high}, Box: box})
	}
	for _, b := range w.boxes {
		k.Boxes = append(k.Boxes, api.ValleyBox{Name: b.name, Mould: b.mould})
	}
	for _, c := range w.tins {
		t := api.ValleyTin{Code: c.code, Grade: c.grade, Weight: api.Span{Low: c.low(), High: c.high()}, Claims: c.claims, Buyer: c.buyer}
		var names []string
		for _, p := range c.pods {
			t.Pods = append(t.Pods, slices.Index(w.pods, p))
			names = append(names, p.name)
		}
		slices.Sort(names)
		k.Tins = append(k.Tins, t)
		k.List += fmt.Sprintln("tin", c.code, c.grade, c.low(), strings.Join(names, " "))
	}
	for _, g := range w.setup.Register.Growers {
		k.Purses = append(k.Purses, api.ValleyPurse{Loan: w.loan[g.Name], Paid: w.paid[g.Name]})
	}
	return k
}

// pick returns one of some values.
func pick[T any](r *rand.Rand, l ...T) T { return l[r.IntN(len(l))] }

// upTo returns a name with a number from 1 on.
func upTo(r *rand.Rand, name string, most int) string {
	return name + fmt.Sprint(1+r.IntN(most))
}

// someLine returns a line that may well be of use in a world.
func someLine(r *rand.Rand, w *world) string {
	grower, pod := pick(r, "mo", "lu", "zo"), upTo(r, "p", 16)
	holder, day := pick(r, "council", "council", "coop", "mo", "lu", "zo"), w.day+r.IntN(6)
	claim, code, known := pick(r, "fair", "shade", "a-1"), pick(r, "abe", "aci", "1r", "aa", "bc", "ei", "aba"), w.knownTin(r)
	switch r.IntN(50) {
	case 0:
		return fmt.Sprint("day ", w.day+r.IntN(3)-r.IntN(2))
	case 1:
		return fmt.Sprint("market ", w.day+r.IntN(3)-r.IntN(2), " ", w.day+r.IntN(10))
	case 2, 3:
		return fmt.Sprint("vine ", upTo(r, "v", 9), " ", grower, " ", r.IntN(100), " ", 1+r.IntN(20))
	case 4, 5:
		return fmt.Sprint("set ", w.knownVine(r), " ", pod)
	case 8, 9:
		return fmt.Sprint("loan ", grower, " ", r.IntN(300))
	case 10:
		return pick(r, "theft "+upTo(r, "p", 80), "mould "+upTo(r, "x", 12))
	case 11:
		return fmt.Sprint("box ", upTo(r, "x", 5))
	case 12, 13, 14:
		return fmt.Sprint("grant ", holder, " ", 1+r.IntN(200), " ", pick(r, "coop", "mo", "lu", "zo"), " ", claim, " ", r.IntN(w.day+1), " ", day, " ", r.IntN(4))
	case 15:
		return fmt.Sprint("back ", holder, " ", 1+r.IntN(200), " ", 1+r.IntN(200), " ", day)
	case 16, 17, 18:
		return fmt.Sprint("label ", known, " ", claim)
	case 19:
		return fmt.Sprint("sell ", known, " ", pick(r, "ka", "so"), " ", r.IntN(20))
	case 20, 21:
		return fmt.Sprint("tin ", code, " ", r.IntN(11), " : ", strings.Join(w.podsForTin(r), " "))
	case 22, 23:
		return pick(r, "pod "+pod, "trace "+known, "owes "+grower, "who "+claim, "sums")
	case 24:
		return pick(r, "prick "+pod, "cut "+pod+" 7", "weigh "+pod+" 5 6", "put "+pod+" x1")
	}
	return w.nextOf(r, w.pod(pod))
}

// knownVine returns the name of a vine, most often of one that there is.
func (w *world) knownVine(r *rand.Rand) string {
	if len(w.vines) == 0 || r.IntN(8) == 0 {
		return upTo(r, "v", 9)
	}
	return pick(r, w.vines...).name
}

// knownTin returns the code of a tin, most often of one that there is.
func (w *world) knownTin(r *rand.Rand) string {
	if len(w.tins) == 0 || r.IntN(8) == 0 {
		return pick(r, "abe", "ei", "zz")
	}
	return pick(r, w.tins...).code
}

// podsForTin returns names of pods, most of which fit into a tin.
func (w *world) podsForTin(r *rand.Rand) []string {
	var l []string
	for _, p := range w.pods {
		if p.state == 5 && p.low > 0 && !p.box.mould && r.IntN(2) == 0 {
			l = append(l, p.name)
		}
	}
	if len(l) == 0 || r.IntN(8) == 0 {
		l = append(l, upTo(r, "p", 17))
	}
	r.Shuffle(len(l), func(i, j int) { l[i], l[j] = l[j], l[i] })
	return l
}

// nextOf returns a line that goes on with a pod.
func (w *world) nextOf(r *rand.Rand, p *wpod) string {
	if p == nil {
		return fmt.Sprint("set ", w.knownVine(r), " ", upTo(r, "p", 17))
	}
	switch p.state {
	case 1:
		return fmt.Sprint("prick ", p.name)
	case 2:
		if r.IntN(4) == 0 {
			return fmt.Sprint("market ", w.day, " ", w.day+r.IntN(5))
		}
		own := map[string][]int{"mo": {7, 3, 5, 6}, "lu": {56, 24, 40, 48}, "zo": {192, 64, 128}}[p.vine.grower]
		return fmt.Sprint("cut ", p.name, " ", pick(r, pick(r, own...), pick(r, own...), pick(r, 7, 24, 64, 4, r.IntN(300))))
	case 3, 5:
		if r.IntN(2) == 0 {
			return fmt.Sprint("weigh ", p.name, " ", r.IntN(12), " ", 5+r.IntN(50))
		}
		return fmt.Sprint("put ", p.name, " ", upTo(r, "x", 3))
	}
	return fmt.Sprint("pod ", p.name)
}

// spoilt returns a line in which something is changed at random.
func spoilt(r *rand.Rand, line string) string {
	tokens := strings.Split(line, " ")
	i := r.IntN(len(tokens))
	switch r.IntN(5) {
	case 0:
		return strings.Join(slices.Delete(tokens, i, i+1), " ")
	case 1:
		return strings.Join(slices.Insert(tokens, i, pick(r, "", ":", "5", "p1", "x1")), " ")
	case 2:
		return line + pick(r, " ", " p1", " 5", " :", "0")
	}
	tokens[i] = pick(r, ":", "0", "1", "5", "10", "51", "01", "1001", "30001", "1000000", "-1", "p1", "p2", "v1", "x1", "mo", "lu", "abe", "Abe", "nobody", tooLong, "day", "sums", "council", "fair")
	return strings.Join(tokens, " ")
}

// run does random lines with a valley and a world, and compares both; after each line it calls look.
func run(t *testing.T, r *rand.Rand, v *clerk.Valley, w *world, many int, look func(line string, e api.Errno)) {
	t.Helper()
	for range many {
		line := someLine(r, w)
		if r.IntN(8) == 0 {
			line = spoilt(r, line)
		}
		answer, e := v.Do(line)
		wanted, code := w.do(line)
		if answer != wanted || e != code {
			t.Fatalf("Do(%q): %q, %d instead of %q, %d; behind\n%s", line, answer, e, wanted, code, strings.Join(w.journal, "\n"))
		}
		same(t, "after "+line, all(v), w.kept())
		if t.Failed() {
			t.Fatalf("behind\n%s", strings.Join(w.journal, "\n"))
		}
		look(line, e)
	}
}

// valleys calls look with random valleys, each of them after many lines.
func valleys(t *testing.T, seed uint64, look func(r *rand.Rand, v *clerk.Valley, w *world)) {
	t.Helper()
	r := rand.New(rand.NewPCG(11, seed))
	for range 50 {
		s := three()
		s.Day = pick(r, 0, 0, 7, 29950)
		s.Roots = pick(r, s.Roots, nil, []string{"council"}, []string{"mo", "council"})
		v, w := open(t, s), newWorld(s)
		run(t, r, v, w, 350, func(string, api.Errno) {})
		look(r, v, w)
	}
}

// TestLinesByTheDocument compares valleys with the document's words; what is done often enough is counted, so that the lines do not go past it.
func TestLinesByTheDocument(t *testing.T) {
	r := rand.New(rand.NewPCG(11, 1))
	seen := map[string]int{}
	for range 120 {
		s := three()
		s.Roots = pick(r, s.Roots, []string{"council"})
		w := newWorld(s)
		run(t, r, open(t, s), w, 400, func(line string, e api.Errno) {
			seen[fmt.Sprint(strings.Split(line, " ")[0], " ", e)]++
		})
	}
	for _, outcome := range []string{
		"day 0", "day 7", "market 0", "market 7", "vine 0", "vine 113", "vine 112", "set 0", "set 6", "set 112", "set 113", "prick 0", "prick 112", "prick 114",
		"cut 0", "cut 114", "cut 115", "cut 116", "theft 0", "theft 112", "theft 114", "weigh 0", "weigh 7", "box 0", "box 113", "put 0", "put 114", "put 112", "mould 0", "mould 112",
		"tin 0", "tin 5", "tin 113", "tin 112", "tin 114", "tin 7", "grant 0", "grant 5", "back 0", "label 0", "label 112", "label 113", "label 117",
		"loan 0", "loan 7", "loan 112", "sell 0", "sell 112", "sell 114", "pod 0", "pod 112", "trace 0", "trace 112", "owes 0", "who 0", "sums 0",
		"prick 111", "grant 111", "tin 111", "sums 111",
	} {
		if seen[outcome] < 5 {
			t.Errorf("%s was seen %d times", outcome, seen[outcome])
		}
	}
}

// TestAgain is P11.6: a valley whose journal is replayed answers like the first one, whatever lines follow.
func TestAgain(t *testing.T) {
	valleys(t, 6, func(r *rand.Rand, v *clerk.Valley, w *world) {
		again, at, e := clerk.Replay(w.setup, v.Journal())
		if again == nil || at != len(w.journal) || e != api.OK {
			t.Fatalf("Replay: %v, %d, %d", again, at, e)
		}
		same(t, "again", all(again), all(v))
		run(t, r, again, w, 60, func(line string, e api.Errno) {
			if _, code := v.Do(line); code != e {
				t.Errorf("Do(%q): %d, and again %d", line, code, e)
			}
		})
		same(t, "later", all(again), all(v))
	})
}

// cuts returns, by the journal alone, on which day each pod was cut, and whether this was a day of the market, and what was read.
func cuts(s api.ValleySetup, journal []string) map[string][3]int {
	day, from, to := s.Day, 0, -1
	l := map[string][3]int{}
	for _, line := range journal {
		said, _ := understand(line)
		switch said.first {
		case "day":
			day = said.n["N"]
		case "market":
			from, to = said.n["A"], said.n["B"]
		case "cut":
			isMarket := 0
			if from <= day && day <= to {
				isMarket = 1
			}
			l[said.word["P"]] = [3]int{day, isMarket, said.n["N"]}
		}
	}
	return l
}

// TestPods is P11.7.
func TestPods(t *testing.T) {
	tinned := 0
	valleys(t, 7, func(r *rand.Rand, v *clerk.Valley, w *world) {
		vines, pods, growers := v.Vines(), v.Pods(), w.setup.Register.Growers
		set := make([]int, len(vines))
		for _, p := range pods {
			set[p.Vine]++
		}
		for i, x := range vines {
			if x.Set != set[i] || set[i] > x.Bears || x.Grower < 0 || x.Grower >= len(growers) {
				t.Errorf("the vine %v has %d pods", x, set[i])
			}
		}
		inTins, cut := map[int]int{}, cuts(w.setup, v.Journal())
		for _, c := range v.Tins() {
			for _, i := range c.Pods {
				tinned++
				inTins[i]++
				p := pods[i]
				known := cut[p.Name]
				whose, e := mark.Read(w.setup.Register, known[2])
				if known != [3]int{p.Day, 1, p.Read} || e != api.OK || whose != vines[p.Vine].Grower || p.Weight.Low < 1 || p.Weight.Low > p.Weight.High || p.Weight.High > 50 {
					t.Errorf("the pod %v in a tin: %v", p, known)
				}
			}
		}
		for i, p := range pods {
			if want := p.State == api.PodTinned || p.State == api.PodPaid; inTins[i] > 1 || (inTins[i] == 1) != want {
				t.Errorf("the pod %v is in %d tins", p, inTins[i])
			}
		}
	})
	if tinned < 50 {
		t.Errorf("only %d pods were in tins", tinned)
	}
}

// TestOneSale is P11.8: the book of marks, put together from single notes in any order, tells the same.
func TestOneSale(t *testing.T) {
	valleys(t, 8, func(r *rand.Rand, v *clerk.Valley, w *world) {
		var book []api.MarkNote
		notes := v.Marks()
		for _, i := range append(r.Perm(len(notes)), r.Perm(len(notes))...) {
			merged, e := mark.Merge(book, notes[i:i+1])
			if e != api.OK {
				t.Fatalf("Merge: %d", e)
			}
			book = merged
		}
		if void, e := mark.Void(w.setup.Register, book); len(void) > 0 || e != api.OK {
			t.Errorf("Void: %v, %d", void, e)
		}
		fates, e := mark.Fates(w.setup.Register, book)
		if e != api.OK {
			t.Fatalf("Fates: %d", e)
		}
		fateOf := map[string]api.Fate{}
		for _, f := range fates {
			fateOf[f.Pod] = f
		}
		// Of a pod that hangs without a mark there is no note.
		state := map[int]int{api.PodMarked: api.PodPricked, api.PodInHand: api.PodCut, api.PodBoxed: api.PodCut, api.PodTinned: api.PodCut, api.PodPaid: api.PodSold, api.PodGone: api.PodStolen}
		for _, p := range v.Pods() {
			owner := w.setup.Register.Growers[v.Vines()[p.Vine].Grower].Name
			if p.State == api.PodHangs {
				owner = ""
			}
			if f := fateOf[p.Name]; f.State != state[p.State] || f.Owner != owner {
				t.Errorf("the pod %v has the fate %v", p, f)
			}
			delete(fateOf, p.Name)
		}
		if len(fateOf) > 0 {
			t.Errorf("fates of no pods: %v", fateOf)
		}
	})
}

// TestToTheCent is P11.9.
func TestToTheCent(t *testing.T) {
	got := 0
	valleys(t, 9, func(r *rand.Rand, v *clerk.Valley, w *world) {
		owed, paid, sums := 0, 0, v.Sums()
		for _, p := range v.Purses() {
			owed += p.Loan
			paid += p.Paid
		}
		if sums.Lent != owed+sums.Back || sums.Got != sums.Out+sums.Back || sums.Out != paid {
			t.Errorf("sums %v, owed %d, paid out %d", sums, owed, paid)
		}
		got += sums.Got
	})
	if got == 0 {
		t.Errorf("nothing was sold")
	}
}

// TestTheLabel is P11.10: a claim that is put on a label holds then, by the notes that there are then, for each pod.
func TestTheLabel(t *testing.T) {
	labelled := 0
	for seed := range uint64(40) {
		r := rand.New(rand.NewPCG(10, seed))
		s := three()
		v, w := open(t, s), newWorld(s)
		run(t, r, v, w, 300, func(line string, e api.Errno) {
			said, _ := understand(line)
			if said.first != "label" || e != api.OK {
				return
			}
			labelled++
			i := slices.IndexFunc(v.Tins(), func(c api.ValleyTin) bool { return c.Code == said.word["C"] })
			for _, at := range v.Tins()[i].Pods {
				p := v.Pods()[at]
				grower := s.Register.Growers[v.Vines()[p.Vine].Grower].Name
				if names, e := seal.Holders(s.Roots, w.notes, said.word["K"], p.Day); !slices.Contains(names, grower) || e != api.OK {
					t.Errorf("%s: %v hold it on the day %d", line, names, p.Day)
				}
			}
		})
	}
	if labelled < 20 {
		t.Errorf("only %d labels", labelled)
	}
}

// TestListOfTins is P11.11: the list is parsed as it was printed; no tin is lighter than its weight, whatever its pods truly weigh.
func TestListOfTins(t *testing.T) {
	valleys(t, 11, func(r *rand.Rand, v *clerk.Valley, w *world) {
		text, e := v.List()
		l, parsed := tin.Parse(text)
		again, printed := tin.Print(l)
		if e != api.OK || parsed != api.OK || printed != api.OK || again != text || len(l) != len(v.Tins()) {
			t.Fatalf("List: %q, %d, %d, %d", text, e, parsed, printed)
		}
		pods := v.Pods()
		for i, c := range v.Tins() {
			least, names := 0, []string{}
			for _, at := range c.Pods {
				least += pods[at].Weight.Low
				names = append(names, pods[at].Name)
			}
			slices.Sort(names)
			same(t, "a tin", l[i], api.Tin{Code: c.Code, Grade: c.Grade, Weight: least, Marks: names})
		}
	})
}
