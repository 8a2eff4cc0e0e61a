package mark

import (
	"cmp"
	"slices"

	"rostellum/api"
)

// sorted returns a list in an order; the list itself stays as it is.
func sorted[T any](l []T, compare func(a, b T) int) []T {
	l = slices.Clone(l)
	slices.SortStableFunc(l, compare)
	return l
}

// compare tells which of two notes is less, whatever their Ids are.
func compare(a, b api.MarkNote) int {
	return cmp.Or(
		cmp.Compare(a.Kind, b.Kind),
		cmp.Compare(a.Pod, b.Pod),
		cmp.Compare(a.Who, b.Who),
		cmp.Compare(a.Day, b.Day),
		cmp.Compare(a.Read, b.Read),
		cmp.Compare(a.Buyer, b.Buyer),
	)
}

// together returns the notes of two books by their Ids; of several of one Id the least one stands first, and is kept.
func together(a, b []api.MarkNote) []api.MarkNote {
	l := sorted(slices.Concat(a, b), func(m, n api.MarkNote) int {
		return cmp.Or(cmp.Compare(m.Id, n.Id), compare(m, n))
	})
	l = slices.CompactFunc(l, func(m, n api.MarkNote) bool { return m.Id == n.Id })
	// What was left out lies behind the list, where no one who appends to it should get to.
	return l[:len(l):len(l)]
}
