package hands

import (
	"slices"

	"rostellum/api"
)

// ends returns the truths of the fewest flowers, and of the most.
func ends(l [][]api.Span) (fewest, most [][]int) {
	for _, flowers := range l {
		low, high := make([]int, len(flowers)), make([]int, len(flowers))
		for vine, f := range flowers {
			low[vine], high[vine] = f.Low, f.High
		}
		fewest, most = append(fewest, low), append(most, high)
	}
	return fewest, most
}

func sum(l []int) int {
	all := 0
	for _, n := range l {
		all += n
	}
	return all
}

// play carries out a plan.
func play(s api.HandsSeason, truth [][]int, plan []api.HandsJob) (pods []int, lost int) {
	left := make([][]int, len(truth))
	for morning, flowers := range truth {
		left[morning] = slices.Clone(flowers)
	}
	pods = make([]int, len(s.Vines))
	for _, j := range plan {
		many := least(j.Many, left[j.Morning][j.Vine], s.Vines[j.Vine].Bears-pods[j.Vine])
		left[j.Morning][j.Vine] -= many
		pods[j.Vine] += many
	}
	for _, flowers := range left {
		lost += sum(flowers)
	}
	return pods, lost
}

// fits reports whether a plan fits a truth: it does if it is carried out wholly.
func fits(s api.HandsSeason, truth [][]int, plan []api.HandsJob) bool {
	pods, _ := play(s, truth, plan)
	worth := 0
	for _, j := range plan {
		worth += j.Many
	}
	return sum(pods) == worth
}

// number is that of a bound.
func number(s api.HandsSeason, truth [][]int, b api.HandsBound) int {
	all, borne := 0, set(b.Vines)
	for vine, v := range s.Vines {
		if borne.has(vine) {
			all += v.Bears
		}
	}
	hands := handsOf(s)
	for morning, flowers := range truth {
		open := set(b.Mornings[morning])
		for vine, n := range flowers {
			if open.has(vine) {
				all += n
			}
		}
		counted := (borne | open).has
		for _, h := range hands {
			all += least(h.Day, h.Rate*h.busy(counted))
		}
	}
	return all
}
