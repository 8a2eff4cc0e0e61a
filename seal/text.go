package seal

import (
	"strconv"
	"strings"

	"rostellum/api"
)

// kindWords are the words of the kinds of notes.
var kindWords = [...]string{api.SealGrant: "grant", api.SealBack: "back"}

// line returns the line of some tokens.
func line(tokens ...string) string { return strings.Join(tokens, " ") + "\n" }

func lineOf(n api.SealNote) string {
	word, seq, from := kindWords[n.Kind], strconv.Itoa(n.Seq), strconv.Itoa(n.From)
	if n.Kind == api.SealBack {
		return line(word, n.By, seq, strconv.Itoa(n.Of), from)
	}
	return line(word, n.By, seq, n.To, n.Claim, from, strconv.Itoa(n.Until), strconv.Itoa(n.Depth))
}

// textOf returns the text of notes.
func textOf(l []api.SealNote) string {
	var b strings.Builder
	for _, n := range each(l, compare) {
		b.WriteString(lineOf(n))
	}
	return b.String()
}

// read returns what the lines of a text tell, whether or not they are the lines of notes; false if one of them tells nothing.
func read(text string) (l []api.SealNote, ok bool) {
	defer func() {
		if recover() != nil {
			l, ok = nil, false
		}
	}()
	for s := range strings.Lines(text) {
		l = append(l, noteOf(strings.Split(strings.TrimSuffix(s, "\n"), " ")))
	}
	return l, true
}

// noteOf returns the note of some tokens. Its words are copied, as they would keep the whole text otherwise.
func noteOf(tokens []string) api.SealNote {
	word := func(i int) string { return strings.Clone(tokens[i]) }
	number := func(i int) int { return numberOf(tokens[i]) }
	switch {
	case tokens[0] == kindWords[api.SealGrant] && len(tokens) == 8:
		return api.SealNote{Kind: api.SealGrant, By: word(1), Seq: number(2), To: word(3), Claim: word(4), From: number(5), Until: number(6), Depth: number(7)}
	case tokens[0] == kindWords[api.SealBack] && len(tokens) == 5:
		return api.SealNote{Kind: api.SealBack, By: word(1), Seq: number(2), Of: number(3), From: number(4)}
	}
	panic("not a line of a note")
}

func numberOf(s string) int {
	n, err := strconv.Atoi(s)
	if err != nil {
		panic("not a number")
	}
	return n
}
