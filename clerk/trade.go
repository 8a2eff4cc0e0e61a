package clerk

import (
	"slices"

	"rostellum/api"
	"rostellum/credit"
	"rostellum/seal"
	"rostellum/vine"
)

func (b *books) grant(l line) (string, api.Errno) {
	return b.note(api.SealNote{
		Kind:  api.SealGrant,
		By:    l.name["G"],
		Seq:   l.number["N"],
		To:    l.name["T"],
		Claim: l.name["K"],
		From:  l.number["A"],
		Until: l.number["B"],
		Depth: l.number["D"],
	})
}

func (b *books) withdraw(l line) (string, api.Errno) {
	return b.note(api.SealNote{
		Kind: api.SealBack,
		By:   l.name["G"],
		Seq:  l.number["N"],
		Of:   l.number["A"],
		From: l.number["B"],
	})
}

// note adds a note about a claim.
func (b *books) note(n api.SealNote) (string, api.Errno) {
	if seal.Check([]api.SealNote{n}) != api.OK {
		return "", api.ErrForm
	}
	if len(b.notes) == api.SealNotes {
		return "", api.ErrFull
	}
	b.notes = append(b.notes, n)
	return "", api.OK
}

func (b *books) label(l line) (string, api.Errno) {
	at, claim := b.tinAt(l.name["C"]), l.name["K"]
	switch {
	case at < 0:
		return "", api.ErrClerkUnknown
	case !vine.IsWord(claim):
		return "", api.ErrForm
	case slices.Contains(b.tins[at].Claims, claim):
		return "", api.ErrClerkTwice
	case !b.mayBear(b.tins[at], claim):
		return "", api.ErrClerkLabel
	}
	b.tins[at].Claims = append(b.tins[at].Claims, claim)
	return numbers(len(b.tins[at].Claims)), api.OK
}

// mayBear reports whether a claim holds for each pod of a tin, on the day on which it was cut.
func (b *books) mayBear(t api.ValleyTin, claim string) bool {
	var pods []api.SealPod
	for _, i := range t.Pods {
		pods = append(pods, api.SealPod{Grower: b.growerName(i), Day: b.pods[i].Day})
	}
	wrong, e := seal.Tin(b.roots, b.notes, claim, pods)
	return e == api.OK && len(wrong) == 0
}

func (b *books) lend(l line) (string, api.Errno) {
	grower, cents := b.growerAt(l.name["G"]), l.number["N"]
	switch {
	case grower < 0:
		return "", api.ErrClerkUnknown
	case !isIn(cents, 1, api.ValleyLoan):
		return "", api.ErrRange
	}
	b.purses[grower].Loan += cents
	b.sums.Lent += cents
	return numbers(b.purses[grower].Loan), api.OK
}

func (b *books) sell(l line) (string, api.Errno) {
	at, buyer, price := b.tinAt(l.name["C"]), l.name["W"], l.number["N"]
	switch {
	case at < 0:
		return "", api.ErrClerkUnknown
	case b.tins[at].Buyer != "":
		return "", api.ErrClerkState
	case !vine.IsWord(buyer):
		return "", api.ErrForm
	case price > api.ValleyPrice:
		return "", api.ErrRange
	}
	gets, e := b.shares(b.tins[at], price)
	if e != api.OK {
		return "", e
	}
	out, back := b.pay(gets)
	b.tins[at].Buyer = buyer
	for _, i := range b.tins[at].Pods {
		b.take(selling, i)
		b.write(i, api.MarkNote{Kind: api.NoteSell, Read: b.pods[i].Read, Buyer: buyer})
	}
	return numbers(out, back), api.OK
}

// shares returns what each grower gets for a tin, at a price of a gram.
func (b *books) shares(t api.ValleyTin, price int) ([]int, api.Errno) {
	grams := make([]int, len(b.purses))
	for _, i := range t.Pods {
		grams[b.growerOf(i)] += b.pods[i].Weight.Low
	}
	return credit.Share(price*t.Weight.Low, grams)
}

// pay pays growers what they get, and returns what is paid out, and what is paid back.
func (b *books) pay(gets []int) (out, back int) {
	for grower, cents := range gets {
		owed := min(cents, b.purses[grower].Loan)
		b.purses[grower].Loan -= owed
		b.purses[grower].Paid += cents - owed
		out += cents - owed
		back += owed
	}
	b.sums.Out += out
	b.sums.Back += back
	b.sums.Got += out + back
	return out, back
}
