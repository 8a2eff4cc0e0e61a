package vine

import (
	"strconv"
	"strings"

	"rostellum/api"
)

// line returns the line of some words.
func line(words ...string) string { return strings.Join(words, " ") + "\n" }

// tokens returns the words of the line of a vine.
func tokens(v api.Vine) []string {
	l := []string{"vine", v.Tag, strconv.Itoa(v.Leaves), strconv.Itoa(v.PerPod)}
	for _, r := range v.Racemes {
		l = append(l, strconv.Itoa(r.Need), strconv.Itoa(r.Flowers))
	}
	return l
}

// reader is what is left of a text.
type reader struct{ rest string }

// read returns the vines of a text, whether or not they are a garden; false if there is a line that is not one of a vine.
func read(s string) (l []api.Vine, ok bool) {
	defer func() {
		if recover() != nil {
			l, ok = nil, false
		}
	}()
	r := &reader{s}
	for r.rest != "" {
		l = append(l, r.vine())
	}
	return l, true
}

// vine reads a line.
func (r *reader) vine() api.Vine {
	word, number := r.word, r.number
	if word() != "vine" {
		panic("not a line of a vine")
	}
	r.expect(' ')
	v := api.Vine{Tag: strings.Clone(word())}
	for _, n := range []*int{&v.Leaves, &v.PerPod} {
		r.expect(' ')
		*n = number()
	}
	for r.has(' ') {
		r.expect(' ')
		need := number()
		r.expect(' ')
		flowers := number()
		v.Racemes = append(v.Racemes, api.Raceme{Need: need, Flowers: flowers})
	}
	r.expect('\n')
	return v
}

func (r *reader) has(c byte) bool { return r.rest != "" && r.rest[0] == c }

func (r *reader) expect(c byte) {
	if !r.has(c) {
		panic("another sign")
	}
	r.rest = r.rest[1:]
}

// word reads what stands before the next blank or the end of the line.
func (r *reader) word() string {
	end := strings.IndexAny(r.rest, " \n")
	if end < 0 {
		panic("a line without an end")
	}
	s := r.rest[:end]
	r.rest = r.rest[end:]
	return s
}

// number reads a number; it is written in one way only, so that what is parsed is printed as it was.
func (r *reader) number() int {
	s := r.word()
	n, err := strconv.Atoi(s)
	if err != nil || n < 0 || strconv.Itoa(n) != s {
		panic("not a number")
	}
	return n
}
