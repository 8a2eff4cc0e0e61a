package watch

import "rostellum/api"

// guard is the posts of a map, and the village that watches there.
type guard struct {
	village
	posts []int
}

func newGuard(m api.WatchMap, v api.WatchVillage) guard {
	return guard{village: newVillage(v), posts: newValley(m).posts()}
}

// can reports whether a set of neighbours can watch for so many nights: each duty needs a pair of its own, and any pair will do.
func (g guard) can(nights int, who set) bool { return nights*len(g.posts) <= g.most(who) }

// nights is the greatest number of nights for which the village can watch.
func (g guard) nights() int {
	var can []int
	for nights := range api.WatchNights + 1 {
		if g.can(nights, g.all()) {
			can = append(can, nights)
		}
	}
	return greatest(0, can...)
}

// round returns a round of so many nights; false if there is none.
func (g guard) round(nights int) ([][]api.WatchDuty, bool) {
	free := g.pairs()
	duty := func(place int) api.WatchDuty {
		if len(free) == 0 {
			return api.WatchDuty{}
		}
		p := free[0]
		free = free[1:]
		return api.WatchDuty{Place: place, A: p.A, B: p.B}
	}
	var l [][]api.WatchDuty
	for range nights {
		var night []api.WatchDuty
		for _, place := range g.posts {
			d := duty(place)
			if d == (api.WatchDuty{}) {
				return nil, false
			}
			night = append(night, d)
		}
		l = append(l, night)
	}
	return l, true
}

// needed returns the neighbours without whom the village cannot watch for so many nights.
func (g guard) needed(nights int) []int {
	var l []int
	for one := range g.Neighbours {
		if !g.can(nights, g.all().without(one)) {
			l = append(l, one)
		}
	}
	return l
}
