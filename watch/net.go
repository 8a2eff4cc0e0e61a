package watch

import (
	"iter"
	"math/bits"

	"rostellum/api"
)

// set is a set of places, or of neighbours.
type set int

func (s set) has(one int) bool { return s>>one&1 == 1 }

func (s set) with(one int) set { return s | 1<<one }

func (s set) without(one int) set { return s &^ (1 << one) }

// first is the lowest number in a set that is not empty.
func (s set) first() int { return bits.TrailingZeros(uint(s)) }

// list returns the elements of a set, increasing.
func (s set) list() []int {
	var l []int
	for ; s != 0; s = s.without(s.first()) {
		l = append(l, s.first())
	}
	return l
}

// link joins two, of whom the one with the lower number should come first.
type link interface{ ends() (low, high int) }

// way joins two places. It goes both ways, so that it does not matter which of them it names first.
type way api.WatchPair

func (w way) ends() (low, high int) { return min(w.A, w.B), max(w.A, w.B) }

// trust joins two neighbours.
type trust api.WatchPair

func (t trust) ends() (low, high int) { return t.A, t.B }

func waysOf(m api.WatchMap) []link {
	var l []link
	for _, p := range m.Ways {
		l = append(l, way(p))
	}
	return l
}

func trustOf(v api.WatchVillage) []link {
	var l []link
	for _, p := range v.Trust {
		l = append(l, trust(p))
	}
	return l
}

// net is what is joined by links.
type net struct{ links []link }

// near yields those that are joined with one.
func (n net) near(one int) iter.Seq[int] {
	return func(yield func(int) bool) {
		for _, l := range n.links {
			low, high := l.ends()
			if one == low && !yield(high) || one == high && !yield(low) {
				return
			}
		}
	}
}

// spots is to which places, or to which neighbours, one can come.
type spots [max(api.WatchPlaces, api.WatchNeighbours)]bool

// spread returns to where one can come from some over no link, over one at most, over two at most, and so on until nothing changes. To those that are left out nobody comes.
func (n net) spread(from set, leftOut func(one int) bool) []spots {
	var now spots
	for _, one := range from.list() {
		now[one] = !leftOut(one)
	}
	all := []spots{now}
further:
	for {
		before := now
		for one, is := range before {
			if !is {
				continue
			}
			for other := range n.near(one) {
				now[other] = !leftOut(other)
			}
		}
		if now == before {
			break further
		}
		all = append(all, now)
	}
	return all
}
