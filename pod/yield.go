package pod

import "rostellum/api"

// notCut stands in a plan for the day of a pod that is not cut.
const notCut = -1

// perGram is how many of the parts in which a gain is counted are a gram.
const perGram = 100

// state is what a day is for a pod.
type state int

const (
	green state = iota
	ripe
	split
	left
)

// parts tells, for each state, which part of a yield a pod adds to: a gram to it, or one pod.
var parts = [...]api.Yield{green: {Green: 1}, ripe: {Ripe: 1}, split: {Split: 1}, left: {Left: 1}}

// truth is what is truly so of one pod.
type truth struct{ ripe, hold, gain int }

// on returns what a day is for a pod.
func (p pod) on(day int, t truth) state {
	age := day - p.Born
	switch {
	case day == notCut:
		return left
	case age < t.ripe:
		return green
	case age < t.ripe+t.hold:
		return ripe
	}
	return split
}

// weight is that of a pod on a day that is not before it was born.
func (p pod) weight(day int, t truth) int { return t.gain * min(day-p.Born, t.ripe) / perGram }

// yield is that of a pod that is cut on a day.
func (p pod) yield(day int, t truth) api.Yield {
	part, grams := parts[p.on(day, t)], p.weight(day, t)
	return api.Yield{Ripe: part.Ripe * grams, Green: part.Green * grams, Split: part.Split, Left: part.Left}
}

// yields returns what a pod that is cut on a day can yield, as far as it matters for the least and the greatest: the longer it holds, the later it splits, and the more it gains, the more it weighs, so that the ends of both are enough.
func (p pod) yields(day int) []api.Yield {
	var l []api.Yield
	for later := range p.Ripe.High - p.Ripe.Low + 1 {
		for _, hold := range [...]int{p.Hold.Low, p.Hold.High} {
			for _, gain := range [...]int{p.Gain.Low, p.Gain.High} {
				l = append(l, p.yield(day, truth{p.Ripe.Low + later, hold, gain}))
			}
		}
	}
	return l
}

// sum is the sum of yields, part by part.
func sum(l []api.Yield) api.Yield {
	var all api.Yield
	add := func(y api.Yield) {
		all.Ripe += y.Ripe
		all.Green += y.Green
		all.Split += y.Split
		all.Left += y.Left
	}
	for _, y := range l {
		add(y)
	}
	return all
}

// ends returns the least and the greatest of what a pod can yield, part by part; whether it is left is known from its plan.
func ends(first api.Yield, others ...api.Yield) (least, most api.Yield) {
	least, most = first, first
	for _, y := range others {
		least.Ripe, most.Ripe = min(least.Ripe, y.Ripe), max(most.Ripe, y.Ripe)
		least.Green, most.Green = min(least.Green, y.Green), max(most.Green, y.Green)
		least.Split, most.Split = min(least.Split, y.Split), max(most.Split, y.Split)
	}
	return least, most
}

// harvest is the yield of a plan with a truth.
func harvest(l []api.Pod, plan []int, t api.PodTruth) api.Yield {
	yields := make([]api.Yield, len(l))
	for i, p := range l {
		yields[i] = pod{p}.yield(plan[i], truth{t.Ripe[i], t.Hold[i], t.Gain[i]})
	}
	return sum(yields)
}

// weigh returns between what the parts of the yield of a plan lie: what is so of one pod says nothing of another one, so that the least and the greatest of all pods add up.
func weigh(l []api.Pod, plan []int) api.PodSpans {
	many := len(l)
	yields := make([]api.Yield, 2*many)
	for i, p := range l {
		can := pod{p}.yields(plan[i])
		yields[i], yields[many+i] = ends(can[0], can[1:]...)
	}
	least, most := sum(yields[:many:many]), sum(yields[many:])
	return api.PodSpans{
		Ripe:  api.Span{Low: least.Ripe, High: most.Ripe},
		Green: api.Span{Low: least.Green, High: most.Green},
		Split: api.Span{Low: least.Split, High: most.Split},
	}
}
