package watch

// side is a side of a place: a path comes in on the one, and goes out on the other one, and one path at most gets from the one to the other.
type side struct {
	place int
	out   bool
}

// outside is where all paths begin and end, as if it were one more place.
const outside = -1

func in(place int) side { return side{place, false} }

func out(place int) side { return side{place, true} }

// step is from a side to another one.
type step struct{ from, to side }

func (s step) back() step { return step{s.to, s.from} }

// trails is, for each side, those to which a step may lead, and which steps can be taken: once a step is taken it cannot be taken again, but back, which undoes it.
type trails struct {
	next map[side][]side
	open map[step]bool
}

func newTrails(v valley) *trails {
	t := &trails{next: map[side][]side{}, open: map[step]bool{}}
	for place := range v.Places {
		t.add(step{in(place), out(place)})
		if set(v.Gates).has(place) {
			t.add(step{out(outside), in(place)})
		}
		if set(v.Fields).has(place) {
			t.add(step{out(place), in(outside)})
		}
		for other := range v.near(place) {
			t.add(step{out(place), in(other)})
		}
	}
	return t
}

func (t *trails) add(s step) {
	t.next[s.from] = append(t.next[s.from], s.to)
	t.next[s.to] = append(t.next[s.to], s.from)
	t.open[s] = true
}

// more makes one path more of the steps; false if there cannot be more.
func (t *trails) more() bool {
	seen := map[side]bool{}
	var lead func(from side) bool
	lead = func(from side) bool {
		if from == in(outside) {
			return true
		}
		seen[from] = true
		for _, to := range t.next[from] {
			s := step{from, to}
			if !t.open[s] || seen[to] || !lead(to) {
				continue
			}
			t.open[s], t.open[s.back()] = false, true
			return true
		}
		return false
	}
	return lead(out(outside))
}

// isTaken reports whether a step between two places, or one of them and outside, was taken.
func (t *trails) isTaken(s step) bool { return t.open[s.back()] }

// after is the place to which the path that goes through a place leads then.
func (t *trails) after(place int) int {
	for _, to := range t.next[out(place)] {
		if to.place != place && t.isTaken(step{out(place), to}) {
			return to.place
		}
	}
	return outside
}

// paths returns as many paths without a common place as there can be.
func (v valley) paths() [][]int {
	t := newTrails(v)
	for t.more() {
	}
	var l [][]int
	for _, gate := range set(v.Gates).list() {
		if !t.isTaken(step{out(outside), in(gate)}) {
			continue
		}
		var path []int
		for place := gate; place != outside; place = t.after(place) {
			path = append(path, place)
		}
		l = append(l, path)
	}
	return l
}
