package mark

import (
	"math/bits"

	"rostellum/api"
	"rostellum/vine"
)

// isIn reports whether a number is from a least to a greatest one.
func isIn(n, least, most int) bool { return least <= n && n <= most }

// isReading reports whether a number is a set of so many dots.
func isReading(n, dots int) bool { return isIn(n, 0, 1<<dots-1) }

func isRegister(r api.Register) bool {
	if !isIn(r.Dots, 1, api.MarkDots) || !isIn(r.Lost, 0, api.MarkLost) || len(r.Growers) > api.MarkGrowers {
		return false
	}
	names := map[string]bool{}
	for _, g := range r.Growers {
		if !vine.IsWord(g.Name) || names[g.Name] || !isReading(g.Mark, r.Dots) || !isEnough(g.Mark, r.Lost) {
			return false
		}
		names[g.Name] = true
	}
	return true
}

// isEnough reports whether a mark has more dots than can close.
func isEnough(mark, lost int) bool { return bits.OnesCount(uint(mark)) > lost }

func isNote(n api.MarkNote) bool {
	if !isIn(n.Id, 1, api.MarkId) || !isIn(n.Kind, api.NotePrick, api.NoteTheft) || !isIn(n.Day, 0, api.MaxDay) {
		return false
	}
	if !vine.IsWord(n.Pod) || !vine.IsWord(n.Who) {
		return false
	}
	if n.Kind == api.NoteSell {
		return isReading(n.Read, api.MarkDots) && vine.IsWord(n.Buyer)
	}
	return n == api.MarkNote{Id: n.Id, Kind: n.Kind, Pod: n.Pod, Who: n.Who, Day: n.Day}
}

func isBook(l []api.MarkNote) bool {
	if len(l) > api.MarkNotes {
		return false
	}
	last := 0
	for _, n := range l {
		if !isNote(n) || n.Id <= last {
			return false
		}
		last = n.Id
	}
	return true
}

// checkBoth checks a register, and then notes.
func checkBoth(r api.Register, l []api.MarkNote) api.Errno {
	if e := Check(r); e != api.OK {
		return e
	}
	return CheckNotes(l)
}
