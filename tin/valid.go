package tin

import (
	"rostellum/api"
	"rostellum/vine"
)

const (
	highestGrade = 9
	widestBand   = 400 // the greatest band of a rule
	mostWrong    = 20  // by how much a length can be wrong at most
)

func isIn(n, low, high int) bool { return low <= n && n <= high }

func isGrade(n int) bool { return isIn(n, 0, highestGrade) }

func isWeight(n int) bool { return isIn(n, 1, api.TinGrams) }

func isRule(r api.TinRule) bool {
	return isIn(r.Many, 1, api.TinMany) && isIn(r.Band, 0, widestBand) && isIn(r.Wrong, 0, mostWrong)
}

func arePods(l []int) bool {
	if len(l) > api.TinPods {
		return false
	}
	for _, length := range l {
		if !isIn(length, 1, api.TinLength) {
			return false
		}
	}
	return true
}

func areBundles(l []api.TinBundle) bool {
	if len(l) > api.TinBundles {
		return false
	}
	for _, b := range l {
		if !isGrade(b.Grade) || !isWeight(b.Weight.Low) || !isWeight(b.Weight.High) || b.Weight.Low > b.Weight.High {
			return false
		}
	}
	return true
}

// checkGoods checks the size of tins, and then bundles.
func checkGoods(size int, l []api.TinBundle) api.Errno {
	if !isWeight(size) {
		return api.ErrRange
	}
	if !areBundles(l) {
		return api.ErrTinPack
	}
	return api.OK
}

// areMarks reports whether a list is one of words, and strictly increasing.
func areMarks(l []string) bool {
	if len(l) > api.TinWords {
		return false
	}
	last := ""
	for _, mark := range l {
		if !vine.IsWord(mark) || mark <= last {
			return false
		}
		last = mark
	}
	return true
}

func isTin(t api.Tin) bool {
	return IsCode(t.Code) && isGrade(t.Grade) && isWeight(t.Weight) && areMarks(t.Marks)
}

func isList(l []api.Tin) bool {
	if len(l) > api.TinLists {
		return false
	}
	codes := map[string]bool{}
	for _, t := range l {
		if !isTin(t) || codes[t.Code] {
			return false
		}
		codes[t.Code] = true
	}
	return true
}
