package tin

import (
	"strconv"
	"strings"

	"rostellum/api"
)

// line returns the line of a tin.
func line(t api.Tin) string {
	tokens := []string{"tin", t.Code, strconv.Itoa(t.Grade), strconv.Itoa(t.Weight)}
	return strings.Join(append(tokens, t.Marks...), " ") + "\n"
}

// read returns the tins of a text, whether or not they are a list; false if there is a line that is not one of a tin.
func read(text string) (l []api.Tin, ok bool) {
	defer func() {
		if recover() != nil {
			l, ok = nil, false
		}
	}()
	for s := range strings.Lines(text) {
		l = append(l, tinOf(s))
	}
	return l, true
}

// tinOf reads a line. It must be the one that the tin is printed as, which is why the signs between the tokens, and how numbers are written, are not looked at one by one.
func tinOf(s string) api.Tin {
	tokens := strings.Split(strings.TrimSuffix(s, "\n"), " ")
	if len(tokens) < 4 {
		panic("less than a tin")
	}
	t := api.Tin{Code: strings.Clone(tokens[1]), Grade: number(tokens[2]), Weight: number(tokens[3])}
	for _, mark := range tokens[4:] {
		t.Marks = append(t.Marks, strings.Clone(mark))
	}
	if line(t) != s {
		panic("not the line of a tin")
	}
	return t
}

func number(s string) int {
	n, err := strconv.Atoi(s)
	if err != nil {
		panic("not a number")
	}
	return n
}
