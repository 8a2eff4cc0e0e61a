package clerk

import (
	"slices"

	"rostellum/api"
	"rostellum/tin"
	"rostellum/vine"
)

// highestGrade is that of a tin.
const highestGrade = 9

func (b *books) weigh(l line) (string, api.Errno) {
	i, weight := b.podAt(l.name["P"]), api.Span{Low: l.number["A"], High: l.number["B"]}
	if e := b.check(weighing, i); e != api.OK {
		return "", e
	}
	if !isIn(weight.Low, 1, weight.High) || weight.High > api.ValleyGrams {
		return "", api.ErrRange
	}
	b.pods[i].Weight = weight
	return "", api.OK
}

func (b *books) addBox(l line) (string, api.Errno) {
	name := l.name["X"]
	switch {
	case b.isThere(name):
		return "", api.ErrClerkTwice
	case !vine.IsWord(name):
		return "", api.ErrForm
	case len(b.boxes) == api.ValleyBoxes:
		return "", api.ErrFull
	}
	b.boxes = append(b.boxes, api.ValleyBox{Name: name})
	return "", api.OK
}

func (b *books) put(l line) (string, api.Errno) {
	i, to := b.podAt(l.name["P"]), b.boxAt(l.name["X"])
	switch {
	case i < 0 || to < 0:
		return "", api.ErrClerkUnknown
	case !b.can(boxing, i) || b.boxes[to].Mould:
		return "", api.ErrClerkState
	}
	if from := b.pods[i].Box; from != api.NoBox {
		b.boxes[to].Mould = b.boxes[from].Mould
	}
	b.take(boxing, i)
	b.pods[i].Box = to
	return "", api.OK
}

func (b *books) findMould(l line) (string, api.Errno) {
	at := b.boxAt(l.name["X"])
	if at < 0 {
		return "", api.ErrClerkUnknown
	}
	b.boxes[at].Mould = true
	many := 0
	for range b.podsIn(at) {
		many++
	}
	return numbers(many), api.OK
}

func (b *books) fillTin(l line) (string, api.Errno) {
	code, grade := l.name["C"], l.number["N"]
	pods, areThere := b.podsAt(l.pods)
	switch {
	case !tin.IsCode(code):
		return "", api.ErrForm
	case b.isThere(code):
		return "", api.ErrClerkTwice
	case !areThere:
		return "", api.ErrClerkUnknown
	case grade > highestGrade || len(pods) > api.ValleyFill:
		return "", api.ErrRange
	}
	weight, fit := b.fit(pods)
	if !fit {
		return "", api.ErrClerkState
	}
	if len(b.tins) == api.ValleyTins {
		return "", api.ErrFull
	}
	for _, i := range pods {
		b.take(tinning, i)
		b.pods[i].Box = api.NoBox
	}
	b.tins = append(b.tins, api.ValleyTin{Code: code, Grade: grade, Pods: pods, Weight: weight})
	return numbers(weight.Low, weight.High), api.OK
}

// fit returns between what the weight of some pods lies; false if one of them does not fit into a tin.
func (b *books) fit(pods []int) (api.Span, bool) {
	var weight api.Span
	many := 0
filling:
	for at, i := range pods {
		heavier := plus(weight, b.pods[i].Weight)
		switch {
		case slices.Contains(pods[:at], i),
			!b.can(tinning, i),
			heavier == weight, // it was not weighed
			b.boxes[b.pods[i].Box].Mould:
			break filling
		}
		weight = heavier
		many++
	}
	return weight, many == len(pods)
}

// plus returns between what a sum lies.
func plus(a, b api.Span) api.Span { return api.Span{Low: a.Low + b.Low, High: a.High + b.High} }
