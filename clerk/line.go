package clerk

import (
	"strconv"
	"strings"

	"rostellum/api"
)

// mostDigits is how many digits a number has at most.
const mostDigits = 6

// row is a row of a table: the letters of the tokens behind the first one, as the document writes them, and what a line does.
type row struct {
	form string
	does func(*books, line) (string, api.Errno)
}

// line is a line that was taken apart: its first token, whether it changes a valley, and for each letter of its row the name, or the number, that stands there.
type line struct {
	text    string
	first   string
	changes bool
	name    map[string]string
	number  map[string]int
	pods    []string // those of P..
}

// changes are the lines that change a valley.
func changes() map[string]row {
	return map[string]row{
		"day":    {"N", (*books).setDay},
		"market": {"A B", (*books).setMarket},
		"vine":   {"V G A B", (*books).addVine},
		"set":    {"V P", (*books).addPod},
		"prick":  {"P", (*books).prick},
		"cut":    {"P N", (*books).cut},
		"theft":  {"P", (*books).steal},
		"weigh":  {"P A B", (*books).weigh},
		"box":    {"X", (*books).addBox},
		"put":    {"P X", (*books).put},
		"mould":  {"X", (*books).findMould},
		"tin":    {"C N : P..", (*books).fillTin},
		"grant":  {"G N T K A B D", (*books).grant},
		"back":   {"G N A B", (*books).withdraw},
		"label":  {"C K", (*books).label},
		"loan":   {"G N", (*books).lend},
		"sell":   {"C W N", (*books).sell},
	}
}

// questions are the lines that change nothing.
func questions() map[string]row {
	return map[string]row{
		"pod":   {"P", (*books).stateOf},
		"trace": {"C", (*books).trace},
		"owes":  {"G", (*books).purseOf},
		"who":   {"K", (*books).holders},
		"sums":  {"", (*books).tellSums},
	}
}

// read takes a line apart; false if it is none.
func read(text string) (l line, ok bool) {
	defer func() {
		if recover() != nil {
			l, ok = line{}, false
		}
	}()
	if len(text) > api.ValleyLine {
		panic("too long a line")
	}
	// The books keep the line and its names, but not a longer text of which it may be a part.
	text = strings.Clone(text)
	left := tokensOf(text)
	take := func() string {
		if len(left) == 0 {
			panic("less than a line")
		}
		token := left[0]
		left = left[1:]
		return token
	}
	l = line{text: text, first: take(), name: map[string]string{}, number: map[string]int{}}
	form, changing := formOf(l.first)
	l.changes = changing
	for _, letter := range strings.Fields(form) {
		switch letter {
		case "N", "A", "B", "D":
			l.number[letter] = numberOf(take())
		case ":":
			expectColon(take())
		case "P..":
			for more := true; more; more = len(left) > 0 {
				l.pods = append(l.pods, nameOf(take()))
			}
		default:
			l.name[letter] = nameOf(take())
		}
	}
	if len(left) > 0 {
		panic("more than a line")
	}
	return l, true
}

// tokensOf returns the tokens of a text.
func tokensOf(text string) []string {
	var l []string
	for token := range strings.SplitSeq(text, " ") {
		if token == "" {
			panic("no token beside a blank")
		}
		l = append(l, token)
	}
	return l
}

// formOf returns the form of the lines with a first token, and whether they change a valley.
func formOf(first string) (form string, changing bool) {
	if r, ok := changes()[first]; ok {
		return r.form, true
	}
	if r, ok := questions()[first]; ok {
		return r.form, false
	}
	panic("not the first token of a line")
}

func expectColon(token string) {
	if token != ":" {
		panic("not a colon")
	}
}

func nameOf(token string) string {
	if token == ":" {
		panic("not a name")
	}
	return token
}

func numberOf(token string) int {
	n, err := strconv.Atoi(token)
	if err != nil || n < 0 || len(token) > mostDigits || strconv.Itoa(n) != token {
		panic("not a number")
	}
	return n
}

// do does a line.
func (b *books) do(l line) (string, api.Errno) {
	if !l.changes {
		return questions()[l.first].does(b, l)
	}
	if len(b.journal) == api.ValleyJournal {
		return "", api.ErrFull
	}
	answer, e := changes()[l.first].does(b, l)
	if e == api.OK {
		b.journal = append(b.journal, l.text)
	}
	return answer, e
}
