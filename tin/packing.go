package tin

import (
	"iter"
	"slices"

	"rostellum/api"
)

// bundle is one that is packed, and its index.
type bundle struct {
	api.TinBundle
	at int
}

// load is the grade of what is in a tin, and between what its weight lies; the zero load is that of an empty tin.
type load struct {
	grade  int
	weight api.Span
}

// tin is a tin while it is filled: its load, and the indices of the bundles that it holds.
type tin struct {
	load
	holds []int
}

// with returns the tin that holds one more bundle.
func (t tin) with(b bundle) tin {
	weight := api.Span{Low: sum(t.weight.Low, b.Weight.Low), High: sum(t.weight.High, b.Weight.High)}
	// Several tins can be filled from this one on, and none of them may write into the list of another one.
	return tin{load{b.Grade, weight}, append(t.holds[:len(t.holds):len(t.holds)], b.at)}
}

// rest tells of each bundle whether it is still to be packed.
type rest [api.TinBundles]bool

// first returns the index of the first bundle that is left; -1 if there is none.
func (r rest) first() int { return slices.Index(r[:], true) }

// without returns what is left once some bundles are packed.
func (r rest) without(packed []int) rest {
	for _, i := range packed {
		r[i] = false
	}
	return r
}

// goods are valid bundles, and the size of the tins into which they are packed.
type goods struct {
	size    int
	bundles []bundle
}

func goodsOf(size int, l []api.TinBundle) goods {
	g := goods{size: size}
	for i, b := range l {
		g.bundles = append(g.bundles, bundle{b, i})
	}
	return g
}

// all is what is left before anything is packed.
func (g goods) all() rest {
	var r rest
	for _, b := range g.bundles {
		r[b.at] = true
	}
	return r
}

// takes reports whether a bundle can be put into a tin, beside what is there.
func (g goods) takes(t tin, b bundle) bool {
	return (t.load == load{} || t.grade == b.Grade) && sum(t.weight.High, b.Weight.High) <= g.size
}

// fit reports whether each bundle can be put into a tin alone.
func (g goods) fit() bool {
	for _, b := range g.bundles {
		if !g.takes(tin{}, b) {
			return false
		}
	}
	return true
}

// tins yields, in the order of what they hold, all tins that hold the first bundle that is left, and none that is not left.
func (g goods) tins(left rest) iter.Seq[tin] {
	return func(yield func(tin) bool) {
		var fill func(t tin, from int) bool // whether more tins are asked for
		fill = func(t tin, from int) bool {
			if !yield(t) {
				return false
			}
			for _, b := range g.bundles[from:] {
				if left[b.at] && g.takes(t, b) && !fill(t.with(b), b.at+1) {
					return false
				}
			}
			return true
		}
		if i := left.first(); i >= 0 && g.takes(tin{}, g.bundles[i]) {
			fill(tin{}.with(g.bundles[i]), i+1)
		}
	}
}

// pack returns the packing with the fewest tins, of several the first one; each bundle must fit into a tin alone.
func (g goods) pack() [][]int {
	known := map[rest]int{}
	var fewest func(left rest) int // how many tins what is left needs
	fewest = func(left rest) int {
		if left == (rest{}) {
			return 0
		}
		if n, ok := known[left]; ok {
			return n
		}
		n := len(g.bundles)
		for t := range g.tins(left) {
			n = min(n, 1+fewest(left.without(t.holds)))
		}
		known[left] = n
		return n
	}
	var packing [][]int
	left := g.all()
packed:
	for left != (rest{}) {
		for t := range g.tins(left) {
			after := left.without(t.holds)
			if fewest(after) < fewest(left) {
				packing = append(packing, t.holds)
				left = after
				continue packed
			}
		}
	}
	return packing
}

// weigh returns between what the weights of the tins of a packing lie; false if it is none. As tins are ordered by their first elements, each one must hold the first bundle that is left.
func (g goods) weigh(packing [][]int) ([]api.Span, bool) {
	var weights []api.Span
	left := g.all()
packed:
	for _, holds := range packing {
		for t := range g.tins(left) {
			if slices.Equal(t.holds, holds) {
				weights = append(weights, t.weight)
				left = left.without(holds)
				continue packed
			}
		}
		return nil, false
	}
	return weights, left == rest{}
}
