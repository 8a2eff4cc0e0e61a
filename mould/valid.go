package mould

import (
	"slices"

	"rostellum/api"
)

// longestDelay is after how many days at most mould can be smelt.
const longestDelay = 10

func isIn(n, low, high int) bool { return low <= n && n <= high }

// isSet reports whether a number is a set of some of so many.
func isSet(n, many int) bool { return isIn(n, 0, 1<<many-1) }

func isRun(r api.MouldRun) bool {
	return isIn(r.Pods, 1, api.MouldPods) && isIn(r.Boxes, 1, api.MouldBoxes) &&
		isIn(r.Few, 0, r.Pods) && isIn(r.Delay, 0, longestDelay) &&
		areDays(r) && arePairs(r)
}

// areDays reports whether a run has days, and on each one a box for each pod.
func areDays(r api.MouldRun) bool {
	if !isIn(len(r.Where), 1, api.MouldDays) {
		return false
	}
	for _, day := range r.Where {
		if len(day) != r.Pods {
			return false
		}
		for _, box := range day {
			if !isIn(box, 0, r.Boxes-1) {
				return false
			}
		}
	}
	return true
}

// arePairs reports whether the boxes of a run that are near are pairs of its boxes.
func arePairs(r api.MouldRun) bool {
	if len(r.Near) > api.MouldNear {
		return false
	}
	for i, p := range r.Near {
		if p.A < 0 || p.A >= p.B || p.B >= r.Boxes || slices.Contains(r.Near[:i], p) {
			return false
		}
	}
	return true
}

func isTime(r api.MouldRun, time int) bool { return isIn(time, 0, len(r.Where)) }

func isTruth(r api.MouldRun, t api.MouldTruth) bool {
	if !isSet(t.First, r.Pods) || pods(t.First).many() > r.Few || len(t.Leaks) != len(r.Where) {
		return false
	}
	for _, leaks := range t.Leaks {
		if !isSet(leaks, len(r.Near)) {
			return false
		}
	}
	return true
}

func areSniffs(r api.MouldRun, l []api.Sniff) bool {
	if len(l) > api.MouldSniffs {
		return false
	}
	for _, s := range l {
		if !isTime(r, s.Time) || !isIn(s.Pod, 0, r.Pods-1) {
			return false
		}
	}
	return true
}

// checkTruth checks a run, and then a truth.
func checkTruth(r api.MouldRun, t api.MouldTruth) api.Errno {
	if e := Check(r); e != api.OK {
		return e
	}
	if !isTruth(r, t) {
		return api.ErrMouldTruth
	}
	return api.OK
}

// checkSniffs checks a run, and then sniffs.
func checkSniffs(r api.MouldRun, l []api.Sniff) api.Errno {
	if e := Check(r); e != api.OK {
		return e
	}
	if !areSniffs(r, l) {
		return api.ErrMouldSniff
	}
	return api.OK
}
