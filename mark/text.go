package mark

import (
	"strconv"
	"strings"

	"rostellum/api"
)

// kindWords are the words of the kinds of notes.
var kindWords = [...]string{api.NotePrick: "prick", api.NoteCut: "cut", api.NoteSell: "sell", api.NoteTheft: "theft"}

// line returns the line of some tokens.
func line(tokens ...string) string { return strings.Join(tokens, " ") + "\n" }

// tokens returns those of the line of a note.
func tokens(n api.MarkNote) []string {
	l := []string{"note", strconv.Itoa(n.Id), kindWords[n.Kind], n.Pod, n.Who, strconv.Itoa(n.Day)}
	if n.Kind == api.NoteSell {
		l = append(l, strconv.Itoa(n.Read), n.Buyer)
	}
	return l
}

// reader is the tokens of a line that are left.
type reader struct{ left []string }

// read returns the notes of a text, whether or not they are a book; false if there is a line that is not one of a note.
func read(s string) (l []api.MarkNote, ok bool) {
	defer func() {
		if recover() != nil {
			l, ok = nil, false
		}
	}()
	for text := range strings.Lines(s) {
		body, ended := strings.CutSuffix(text, "\n")
		if !ended {
			panic("a line without an end")
		}
		r := &reader{strings.Split(body, " ")}
		l = append(l, r.note())
	}
	return l, true
}

// note reads a line.
func (r *reader) note() api.MarkNote {
	if r.token() != "note" {
		panic("not a line of a note")
	}
	n := api.MarkNote{Id: r.number()}
	n.Kind = r.kind()
	n.Pod = r.word()
	n.Who = r.word()
	n.Day = r.number()
	if n.Kind == api.NoteSell {
		n.Read = r.number()
		n.Buyer = r.word()
	}
	if len(r.left) > 0 {
		panic("more than a note")
	}
	return n
}

func (r *reader) token() string {
	if len(r.left) == 0 {
		panic("less than a note")
	}
	s := r.left[0]
	r.left = r.left[1:]
	return s
}

// word reads a text, which keeps nothing of the line.
func (r *reader) word() string { return strings.Clone(r.token()) }

// kind reads a kind by its word.
func (r *reader) kind() int {
	s := r.token()
	for kind := api.NotePrick; kind <= api.NoteTheft; kind++ {
		if kindWords[kind] == s {
			return kind
		}
	}
	panic("not a kind of notes")
}

// number reads a number; it is written in one way only, so that what is parsed is printed as it was.
func (r *reader) number() int {
	s := r.token()
	n, err := strconv.Atoi(s)
	if err != nil || strconv.Itoa(n) != s {
		panic("not a number")
	}
	return n
}
