package vine

import "rostellum/api"

// never is a number of cuts that no list has.
const never = api.VineDays + 1

// dusk is a day, and its shade before it may be cut.
type dusk struct{ day, shade int }

// choice is the number of cuts on a day, 1 or 0, and the shade that they leave.
type choice struct{ cuts, shade int }

// choices returns what can be done on a day; the cut comes first, since of lists with as many days the one with the earlier day is the first.
func (y year) choices(at dusk) [2]choice {
	return [2]choice{{cuts: 1, shade: y.cut(at.shade)}, {cuts: 0, shade: at.shade}}
}

// after is where a choice leads to.
func (y year) after(at dusk, c choice) dusk { return dusk{at.day + 1, y.grown(c.shade)} }

// trim returns the first of the shortest lists of cuts that keep the shade good; false if there is none.
func (y year) trim() ([]int, bool) {
	known := map[dusk]int{}
	var fewest func(at dusk) int
	with := func(at dusk, c choice) int {
		if !isIn(c.shade, y.Shade.Good) {
			return never
		}
		return min(c.cuts+fewest(y.after(at, c)), never)
	}
	fewest = func(at dusk) int {
		if at.day == len(y.Days) {
			return 0
		}
		if n, ok := known[at]; ok {
			return n
		}
		n := never
		for _, c := range y.choices(at) {
			n = min(n, with(at, c))
		}
		known[at] = n
		return n
	}
	at := dusk{0, y.Shade.From}
	left := fewest(at)
	if left == never {
		return nil, false
	}
	var cuts []int
days:
	for day := range len(y.Days) {
		for _, c := range y.choices(at) {
			if with(at, c) != left {
				continue
			}
			at = y.after(at, c)
			left -= c.cuts
			if c.cuts == 0 {
				continue days
			}
			cuts = append(cuts, day)
			break
		}
	}
	return cuts, true
}
