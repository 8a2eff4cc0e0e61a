package cure

import "rostellum/api"

// isTruth reports whether a box can have weighed so much, and have lost so much day by day.
func (p process) isTruth(t api.CureTruth) bool {
	if !isIn(t.Weight, p.Weight) || !isIn(t.Solid, p.Solid) || len(t.Losses) != len(p.losses) {
		return false
	}
	for day, lost := range t.Losses {
		if !isIn(lost, p.losses[day]) {
			return false
		}
	}
	weights := weightsOf(t)
	return weights[len(weights)-1] >= t.Solid
}

// weightsOf returns the weights after 0 days, after 1 day, and so on.
func weightsOf(t api.CureTruth) []int {
	l := []int{t.Weight}
	for day, lost := range t.Losses {
		l = append(l, l[day]-lost)
	}
	return l
}

// moistureOf is how many thousandths of a weight are water, rounded up.
func moistureOf(weight, solid int) int {
	return (api.CureWhole*(weight-solid) + weight - 1) / weight
}

// follow returns the weights and the moistures of a truth.
func follow(t api.CureTruth) (weights, moistures []int) {
	weights = weightsOf(t)
	moistures = make([]int, len(weights))
	for day, w := range weights {
		moistures[day] = moistureOf(w, t.Solid)
	}
	return weights, moistures
}
