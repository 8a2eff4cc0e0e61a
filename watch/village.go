package watch

import (
	"cmp"

	"rostellum/api"
)

// greatest is the greatest of several numbers.
func greatest[T cmp.Ordered](first T, others ...T) T {
	for _, n := range others {
		first = max(first, n)
	}
	return first
}

// village is a valid village, whose neighbours are joined by trust, and how many pairs at most are known to be made of sets of them.
type village struct {
	api.WatchVillage
	net
	known map[set]int
}

func newVillage(v api.WatchVillage) village {
	return village{WatchVillage: v, net: net{trustOf(v)}, known: map[set]int{0: 0}}
}

// all is the set of all neighbours.
func (v village) all() set { return 1<<v.Neighbours - 1 }

// most returns how many pairs at most can be made of a set of neighbours.
func (v village) most(of set) int {
	var count func(of set) int
	count = func(of set) int {
		if n, ok := v.known[of]; ok {
			return n
		}
		first := of.first()
		rest := of.without(first)
		var paired []int
		for other := range v.near(first) {
			if rest.has(other) {
				paired = append(paired, 1+count(rest.without(other)))
			}
		}
		n := greatest(count(rest), paired...)
		v.known[of] = n
		return n
	}
	return count(of)
}

// pairs returns as many pairs as possible. The first neighbour who is left goes with one with whom all others still make as many pairs as they must, and alone if there is none.
func (v village) pairs() []api.WatchPair {
	var l []api.WatchPair
	left := v.all()
	for left != 0 {
		most, first := v.most(left), left.first()
		left = left.without(first)
		for other := range v.near(first) {
			if left.has(other) && v.most(left.without(other)) == most-1 {
				l = append(l, api.WatchPair{A: first, B: other})
				left = left.without(other)
				break
			}
		}
	}
	return l
}

// odd returns how many parts with an odd number of neighbours the village has without a set.
func (v village) odd(without set) int {
	n := 0
	seen := without
	for one := range v.Neighbours {
		if seen.has(one) {
			continue
		}
		come := v.spread(set(0).with(one), without.has)
		many := 0
		for other, is := range come[len(come)-1] {
			if is {
				many++
				seen = seen.with(other)
			}
		}
		n += many % 2
	}
	return n
}

// proof returns a set whose number is how many pairs there are: those without whom there are fewer pairs, and whom one trusts without whom there are not fewer. That it is such a set is the theorem of Gallai and Edmonds.
func (v village) proof() set {
	var spare, proof set
	for one := range v.Neighbours {
		if v.most(v.all().without(one)) == v.most(v.all()) {
			spare = spare.with(one)
		}
	}
	for _, one := range spare.list() {
		for other := range v.near(one) {
			if !spare.has(other) {
				proof = proof.with(other)
			}
		}
	}
	return proof
}
