package pod

import (
	"cmp"
	"slices"

	"rostellum/api"
)

// sorted returns a list in the order of a number of each element.
func sorted[T any](l []T, by func(T) int) []T {
	l = slices.Clone(l)
	slices.SortStableFunc(l, func(a, b T) int { return cmp.Compare(by(a), by(b)) })
	return l
}

// serve returns the fewest rounds that serve all offers, and for each round a pod that needs one of its own.
// The offer whose window ends first cannot wait longer than until its last day, and no other day serves more of the others. Each pod that is then still not served has a window that begins later, so that it is apart from those before it.
func serve(offers []offer) (rounds, apart []int) {
pods:
	for _, o := range sorted(offers, offer.lastDay) {
		for day := range days(o) {
			if slices.Contains(rounds, day) {
				continue pods
			}
		}
		rounds = append(rounds, o.lastDay())
		apart = append(apart, o.index)
	}
	slices.Sort(apart)
	return rounds, apart
}

// sure is what an offer yields at least on each day of its window.
func (o offer) sure() api.Yield {
	return o.yield(o.window().Low, truth{o.Ripe.Low, o.Hold.Low, o.Gain.Low})
}

// surely is what a market yields at least if all pods that it can serve are cut in their windows.
func surely(l []api.Pod, market api.Span) api.Yield {
	var yields []api.Yield
	for _, o := range offersOf(l, market) {
		yields = append(yields, o.sure())
	}
	return sum(yields)
}

// bestOpening returns the first of the days on which a market of so many days can begin such that most grams are sure, and how many these are.
func bestOpening(l []api.Pod, days api.Span, long int) (day, grams int) {
	var best api.Yield
	for first := days.Low; first <= days.High; first++ {
		y := surely(l, api.Span{Low: first, High: first + long - 1})
		if y.Ripe > best.Ripe {
			day, best = first, y
		}
	}
	if best == (api.Yield{}) {
		// No market yields more than that of no pods: the first one is as good as the others.
		day = days.Low
	}
	return day, best.Ripe
}
