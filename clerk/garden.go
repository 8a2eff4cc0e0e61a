package clerk

import (
	"rostellum/api"
	"rostellum/mark"
	"rostellum/vine"
)

func (b *books) setDay(l line) (string, api.Errno) {
	day := l.number["N"]
	if !isIn(day, b.day, api.MaxDay) {
		return "", api.ErrRange
	}
	b.day = day
	return "", api.OK
}

func (b *books) setMarket(l line) (string, api.Errno) {
	market := api.Span{Low: l.number["A"], High: l.number["B"]}
	if !isIn(market.Low, b.day, market.High) || market.High > api.MaxDay {
		return "", api.ErrRange
	}
	b.market = market
	return "", api.OK
}

func (b *books) addVine(l line) (string, api.Errno) {
	name, grower := l.name["V"], b.growerAt(l.name["G"])
	leaves, perPod := l.number["A"], l.number["B"]
	switch {
	case grower < 0:
		return "", api.ErrClerkUnknown
	case b.isThere(name):
		return "", api.ErrClerkTwice
	case vine.CheckGarden([]api.Vine{{Tag: name, Leaves: leaves, PerPod: perPod}}) != api.OK:
		return "", api.ErrForm
	case len(b.vines) == api.ValleyVines:
		return "", api.ErrFull
	}
	bears := leaves / perPod
	b.vines = append(b.vines, api.ValleyVine{Name: name, Grower: grower, Bears: bears})
	return numbers(bears), api.OK
}

func (b *books) addPod(l line) (string, api.Errno) {
	at, name := b.vineAt(l.name["V"]), l.name["P"]
	switch {
	case at < 0:
		return "", api.ErrClerkUnknown
	case b.isThere(name):
		return "", api.ErrClerkTwice
	case !vine.IsWord(name):
		return "", api.ErrForm
	case b.vines[at].Set == b.vines[at].Bears || len(b.pods) == api.ValleyPods:
		return "", api.ErrFull
	}
	b.pods = append(b.pods, api.ValleyPod{Name: name, Vine: at, State: api.PodHangs, Box: api.NoBox})
	b.vines[at].Set++
	return numbers(b.vines[at].Set), api.OK
}

func (b *books) prick(l line) (string, api.Errno) {
	i := b.podAt(l.name["P"])
	if e := b.check(pricking, i); e != api.OK {
		return "", e
	}
	b.take(pricking, i)
	b.write(i, api.MarkNote{Kind: api.NotePrick})
	return "", api.OK
}

func (b *books) cut(l line) (string, api.Errno) {
	i, dots := b.podAt(l.name["P"]), l.number["N"]
	if e := b.check(cutting, i); e != api.OK {
		return "", e
	}
	if !isIn(b.day, b.market.Low, b.market.High) {
		return "", api.ErrClerkMarket
	}
	if grower, e := mark.Read(b.register, dots); e != api.OK || grower != b.growerOf(i) {
		return "", api.ErrClerkMark
	}
	b.take(cutting, i)
	b.pods[i].Day, b.pods[i].Read = b.day, dots
	b.write(i, api.MarkNote{Kind: api.NoteCut})
	return "", api.OK
}

func (b *books) steal(l line) (string, api.Errno) {
	i := b.podAt(l.name["P"])
	if e := b.check(stealing, i); e != api.OK {
		return "", e
	}
	b.take(stealing, i)
	b.write(i, api.MarkNote{Kind: api.NoteTheft})
	return "", api.OK
}
