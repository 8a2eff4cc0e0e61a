package vine

import "rostellum/api"

// sums is how many sums of heats there can be, from 0 on.
const sums = api.VineDays*api.VineWarm + 1

// tally is, for each sum, the best number of flowers of a morning with which one can get to it; 0 where one can't.
type tally [sums]int

// place is a day and its sum: where one can get to by some heats.
type place struct{ day, sum int }

// start is before the season, where no raceme is open, not even one that needs nothing.
var start = place{day: -1, sum: 0}

// morning is a day of a year, racemes, and whether more or fewer flowers are better.
type morning struct {
	year
	racemes []api.Raceme
	day     int
	better  func(a, b int) bool
}

// best is the best number of flowers on the morning, over all truths.
func (m morning) best() int {
	reached := map[place]bool{start: true}
	var flowers tally
	for day := range m.day + 1 {
		flowers = m.next(day, flowers, reached)
	}
	if flowers == (tally{}) {
		return 0
	}
	return m.pick(flowers, reached)
}

// next returns the tally of a day from that of the day before, and adds the places of the day to those that are reached.
func (m morning) next(day int, before tally, reached map[place]bool) tally {
	var after tally
	for sum := range day*api.VineWarm + 1 {
		from := place{day - 1, sum}
		if !reached[from] {
			continue
		}
		for heat := range m.heats(day) {
			to := place{day, sum + heat}
			n := before[sum] + m.added(from, to)
			if !reached[to] || m.better(n, after[to.sum]) {
				reached[to] = true
				after[to.sum] = n
			}
		}
	}
	return after
}

// added is how many racemes open on the way from a place to one of the next day, and still have a flower on the morning.
// Each raceme opens on one day only, so that these numbers add up to the flowers of the morning.
func (m morning) added(from, to place) int {
	n := 0
	for _, r := range m.racemes {
		opens := r.Need <= to.sum && (from == start || r.Need > from.sum)
		if opens && to.day+r.Flowers > m.day {
			n++
		}
	}
	return n
}

// pick is the best number of flowers among all places of the morning.
func (m morning) pick(flowers tally, reached map[place]bool) int {
	best, found := 0, false
	for sum, n := range flowers {
		if reached[place{m.day, sum}] && (!found || m.better(n, best)) {
			best, found = n, true
		}
	}
	return best
}
