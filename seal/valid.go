package seal

import (
	"rostellum/api"
	"rostellum/vine"
)

func isIn(n, low, high int) bool { return low <= n && n <= high }

func isDay(n int) bool { return isIn(n, 0, api.MaxDay) }

func isSeq(n int) bool { return isIn(n, 1, api.SealSeq) }

func areWords(l ...string) bool {
	for _, s := range l {
		if !vine.IsWord(s) {
			return false
		}
	}
	return true
}

func isNote(n api.SealNote) bool {
	if !vine.IsWord(n.By) || !isSeq(n.Seq) || !isDay(n.From) {
		return false
	}
	switch n.Kind {
	case api.SealGrant:
		return areWords(n.To, n.Claim) && n.To != n.By && isIn(n.Until, n.From, api.MaxDay) && isIn(n.Depth, 0, api.SealDepth) && n.Of == 0
	case api.SealBack:
		return isSeq(n.Of) && n == api.SealNote{Kind: n.Kind, By: n.By, Seq: n.Seq, From: n.From, Of: n.Of}
	}
	return false
}

func areNotes(l []api.SealNote) bool {
	if len(l) > api.SealNotes {
		return false
	}
	for _, n := range l {
		if !isNote(n) {
			return false
		}
	}
	return true
}

func areRoots(l []string) bool {
	if len(l) > api.SealRoots {
		return false
	}
	names := map[string]bool{}
	for _, s := range l {
		if !vine.IsWord(s) || names[s] {
			return false
		}
		names[s] = true
	}
	return true
}

// areDays reports whether one can ask for the days from one to another.
func areDays(from, until int) bool {
	return isDay(from) && isDay(until) && isIn(until-from+1, 1, api.SealLong)
}

func arePods(l []api.SealPod) bool {
	if len(l) > api.SealPods {
		return false
	}
	for _, p := range l {
		if !vine.IsWord(p.Grower) || !isDay(p.Day) {
			return false
		}
	}
	return true
}

// check checks roots, then notes, and then whether one can ask what is asked.
func check(roots []string, l []api.SealNote, canBeAsked bool) api.Errno {
	if !areRoots(roots) {
		return api.ErrSealRoots
	}
	if e := Check(l); e != api.OK {
		return e
	}
	if !canBeAsked {
		return api.ErrSealAsk
	}
	return api.OK
}
