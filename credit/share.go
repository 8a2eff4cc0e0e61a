package credit

import (
	"cmp"
	"slices"
)

// share is the index of a share, and by how much its quota was rounded down.
type share struct{ at, rounded int }

// compare tells which of two shares gets a cent that is left first.
func (s share) compare(t share) int {
	return cmp.Or(cmp.Compare(t.rounded, s.rounded), cmp.Compare(s.at, t.at))
}

// sharedOut returns what each share of a sum gets.
func sharedOut(cents int, parts []int) []int {
	whole := sum(parts...)
	var gets []int
	var shares []share
	for i, part := range parts {
		gets = append(gets, cents*part/whole)
		shares = append(shares, share{i, cents * part % whole})
	}
	slices.SortFunc(shares, share.compare)
	// There are fewer cents than shares whose quotas were rounded down.
	for i := range cents - sum(gets...) {
		gets[shares[i].at]++
	}
	return gets
}
