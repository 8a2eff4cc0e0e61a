package seal

import (
	"cmp"
	"slices"
	"strings"

	"rostellum/api"
)

// note is a note in the calculation.
type note struct{ api.SealNote }

func (n note) compareBy(o note) int { return cmp.Compare(n.By, o.By) }

func (n note) compareSeq(o note) int { return cmp.Compare(n.Seq, o.Seq) }

func (n note) compareKind(o note) int { return cmp.Compare(n.Kind, o.Kind) }

func (n note) compareTo(o note) int { return cmp.Compare(n.To, o.To) }

func (n note) compareClaim(o note) int { return cmp.Compare(n.Claim, o.Claim) }

func (n note) compareFrom(o note) int { return cmp.Compare(n.From, o.From) }

func (n note) compareUntil(o note) int { return cmp.Compare(n.Until, o.Until) }

func (n note) compareDepth(o note) int { return cmp.Compare(n.Depth, o.Depth) }

func (n note) compareOf(o note) int { return cmp.Compare(n.Of, o.Of) }

// steps are by what notes are compared, one after the other.
func steps() [9]func(a, b note) int {
	return [...]func(a, b note) int{
		note.compareBy, note.compareSeq, note.compareKind,
		note.compareTo, note.compareClaim,
		note.compareFrom, note.compareUntil, note.compareDepth, note.compareOf,
	}
}

// compare compares two notes by the order of notes.
func compare(a, b api.SealNote) int {
	for _, step := range steps() {
		if c := step(note{a}, note{b}); c != 0 {
			return c
		}
	}
	return 0
}

// each returns the elements of a list in an order, each once; the list itself stays as it is.
func each[T comparable](l []T, compare func(a, b T) int) []T {
	l = slices.Clone(l)
	slices.SortFunc(l, compare)
	return slices.Clip(slices.Compact(l))
}

// without returns notes without one of them.
func without(l []api.SealNote, n api.SealNote) []api.SealNote {
	return slices.DeleteFunc(slices.Clone(l), func(o api.SealNote) bool { return o == n })
}

// liars returns who wrote different notes with the same number; the notes are in order, each once.
func liars(l []api.SealNote) []string {
	var names []string
	for i, n := range l {
		if i > 0 && l[i-1].By == n.By && l[i-1].Seq == n.Seq {
			names = append(names, n.By)
		}
	}
	return each(names, strings.Compare)
}
