package hands

import (
	"slices"

	"rostellum/api"
)

// isUpTo reports whether a number is from 0 to the greatest one that is allowed.
func isUpTo(n, most int) bool { return 0 <= n && n <= most }

// areHours reports whether an hour is one, and another one too that is not before it.
func areHours(from, to int) bool { return 0 <= from && from <= to && to < api.HandsHours }

// isSet reports whether a number is a set of so many vines.
func isSet(n, vines int) bool { return 0 <= n && n < 1<<vines }

func areVines(l []api.HandsVine) bool {
	if len(l) < 1 || len(l) > api.HandsVines {
		return false
	}
	for _, v := range l {
		if !areHours(v.From, v.To) || !isUpTo(v.Bears, api.HandsBears) {
			return false
		}
	}
	return true
}

func areHands(l []api.HandsHand, vines int) bool {
	if len(l) > api.HandsHands {
		return false
	}
	for _, h := range l {
		if !isSet(h.Vines, vines) || !areHours(h.From, h.To) {
			return false
		}
		if !isUpTo(h.Rate, api.HandsRate) || !isUpTo(h.Day, api.HandsDay) {
			return false
		}
	}
	return true
}

func areMornings(l [][]api.Span, vines int) bool {
	if len(l) < 1 || len(l) > api.HandsMornings {
		return false
	}
	for _, flowers := range l {
		if len(flowers) != vines {
			return false
		}
		for _, f := range flowers {
			if f.Low < 0 || f.Low > f.High || f.High > api.HandsFlowers {
				return false
			}
		}
	}
	return true
}

// isTruth reports whether so many flowers can open in a season.
func isTruth(s api.HandsSeason, truth [][]int) bool {
	if len(truth) != len(s.Flowers) {
		return false
	}
	for morning, flowers := range truth {
		if len(flowers) != len(s.Vines) {
			return false
		}
		for vine, n := range flowers {
			f := s.Flowers[morning][vine]
			if n < f.Low || n > f.High {
				return false
			}
		}
	}
	return true
}

// order is by what jobs are ordered.
func order(j api.HandsJob) []int { return []int{j.Morning, j.Hour, j.Hand, j.Vine} }

// isPlan reports whether jobs are in order, can be done, and leave no hand with more than it can do.
func isPlan(s api.HandsSeason, plan []api.HandsJob) bool {
	if len(plan) > api.HandsJobs {
		return false
	}
	hands, left := handsOf(s), whatIsLeft(s)
	for i, j := range plan {
		if i > 0 && slices.Compare(order(plan[i-1]), order(j)) >= 0 {
			return false
		}
		if !isOf(s, j) || !hands[j.Hand].can(j.Hour, j.Vine) || !left.take(j) {
			return false
		}
	}
	return true
}

// isOf reports whether a job names a morning, a hand and a vine of a season.
func isOf(s api.HandsSeason, j api.HandsJob) bool {
	return isUpTo(j.Morning, len(s.Flowers)-1) && isUpTo(j.Hand, len(s.Hands)-1) && isUpTo(j.Vine, len(s.Vines)-1)
}

func isBound(s api.HandsSeason, b api.HandsBound) bool {
	if !isSet(b.Vines, len(s.Vines)) || len(b.Mornings) != len(s.Flowers) {
		return false
	}
	for _, vines := range b.Mornings {
		if !isSet(vines, len(s.Vines)) || vines&b.Vines != 0 {
			return false
		}
	}
	return true
}

// checkTruth checks a season, and then a truth.
func checkTruth(s api.HandsSeason, truth [][]int) api.Errno {
	if e := Check(s); e != api.OK {
		return e
	}
	if !isTruth(s, truth) {
		return api.ErrHandsTruth
	}
	return api.OK
}

// checkPlan checks a season, then a truth, and then a plan.
func checkPlan(s api.HandsSeason, truth [][]int, plan []api.HandsJob) api.Errno {
	if e := checkTruth(s, truth); e != api.OK {
		return e
	}
	if !isPlan(s, plan) {
		return api.ErrHandsPlan
	}
	return api.OK
}
