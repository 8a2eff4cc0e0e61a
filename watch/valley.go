package watch

import (
	"cmp"
	"slices"

	"rostellum/api"
)

// valley is a valid map, whose places are joined by ways.
type valley struct {
	api.WatchMap
	net
}

func newValley(m api.WatchMap) valley { return valley{WatchMap: m, net: net{waysOf(m)}} }

// thief returns the first of the shortest paths that a watch does not stop; none if it guards the map.
func (v valley) thief(watch set) []int {
	fromField := v.spread(set(v.Fields), watch.has)
	for far, come := range fromField {
		for _, gate := range set(v.Gates).list() {
			if come[gate] {
				return v.walk(gate, fromField[:far])
			}
		}
	}
	return nil
}

// walk returns the first path from a place that comes nearer to a field with each step; what is nearest comes first in the list.
func (v valley) walk(place int, nearer []spots) []int {
	path := []int{place}
	for _, come := range slices.Backward(nearer) {
		var next set
		for other := range v.near(place) {
			if come[other] {
				next = next.with(other)
			}
		}
		place = next.first()
		path = append(path, place)
	}
	return path
}

// posts returns the first of the smallest watches that guard the map. There are so few watches that each one can be tried; that of all places guards every map.
func (v valley) posts() []int {
	all := 1 << v.Places
	best := set(all - 1).list()
	for watch := range all {
		l := set(watch).list()
		if isBetter(l, best) && len(v.thief(set(watch))) == 0 {
			best = l
		}
	}
	return best
}

// isBetter reports whether a list is shorter than another one, or as long, and comes before it.
func isBetter(l, than []int) bool {
	return cmp.Or(cmp.Compare(len(l), len(than)), slices.Compare(l, than)) < 0
}
