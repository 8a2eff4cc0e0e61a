package tin

import (
	"cmp"
	"slices"

	"rostellum/api"
)

// pod is the index of a pod, and the length that was measured.
type pod struct{ at, length int }

// compare tells which of two pods is the shorter one.
func (p pod) compare(q pod) int {
	return cmp.Or(cmp.Compare(p.length, q.length), cmp.Compare(p.at, q.at))
}

// byLength returns pods, the shortest one first.
func byLength(lengths []int) []pod {
	var l []pod
	for i, length := range lengths {
		l = append(l, pod{i, length})
	}
	slices.SortFunc(l, pod.compare)
	return l
}

// rule is a valid rule.
type rule struct{ api.TinRule }

// sorting returns the most bundles of pods that are sorted by length. If the shortest pods that are left are a bundle, no other one leaves more of the longer pods; if they are not, the shortest of them is in no bundle.
func (r rule) sorting(left []pod) [][]int {
	var bundles [][]int
	for len(left) >= r.Many {
		shortest := left[:r.Many:r.Many]
		if !r.isBundle(shortest) {
			left = left[1:]
			continue
		}
		bundles = append(bundles, indices(shortest))
		left = left[r.Many:]
	}
	return bundles
}

// isBundle reports whether as many pods as a bundle has, sorted by length, are one.
func (r rule) isBundle(l []pod) bool {
	if len(l) == 1 {
		return true // there are no two pods whose lengths could differ
	}
	// One length can be wrong upwards, and the other one downwards.
	return l[len(l)-1].length-l[0].length+2*r.Wrong <= r.Band
}

// indices returns those of some pods, increasing.
func indices(pods []pod) []int {
	var l []int
	for _, p := range pods {
		l = append(l, p.at)
	}
	slices.Sort(l)
	return l
}
