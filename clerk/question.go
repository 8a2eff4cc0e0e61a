package clerk

import (
	"strconv"
	"strings"

	"rostellum/api"
	"rostellum/seal"
	"rostellum/vine"
)

// answer returns an answer of some tokens.
func answer(tokens ...string) string { return strings.Join(tokens, " ") }

// numbers returns an answer of some numbers.
func numbers(l ...int) string {
	var tokens []string
	for _, n := range l {
		tokens = append(tokens, strconv.Itoa(n))
	}
	return answer(tokens...)
}

func (b *books) stateOf(l line) (string, api.Errno) {
	i := b.podAt(l.name["P"])
	if i < 0 {
		return "", api.ErrClerkUnknown
	}
	return numbers(b.pods[i].State), api.OK
}

func (b *books) trace(l line) (string, api.Errno) {
	at := b.tinAt(l.name["C"])
	if at < 0 {
		return "", api.ErrClerkUnknown
	}
	var names []string
	for _, i := range b.tins[at].Pods {
		names = append(names, b.pods[i].Name, b.vines[b.pods[i].Vine].Name, b.growerName(i))
	}
	return answer(names...), api.OK
}

func (b *books) purseOf(l line) (string, api.Errno) {
	grower := b.growerAt(l.name["G"])
	if grower < 0 {
		return "", api.ErrClerkUnknown
	}
	return numbers(b.purses[grower].Loan, b.purses[grower].Paid), api.OK
}

func (b *books) holders(l line) (string, api.Errno) {
	claim := l.name["K"]
	if !vine.IsWord(claim) {
		return "", api.ErrForm
	}
	names, e := seal.Holders(b.roots, b.notes, claim, b.day)
	return answer(names...), e
}

func (b *books) tellSums(line) (string, api.Errno) {
	return numbers(b.sums.Lent, b.sums.Back, b.sums.Out, b.sums.Got), api.OK
}
