package mould

import (
	"iter"
	"slices"

	"rostellum/api"
)

// run is a valid run.
type run struct{ api.MouldRun }

// last is the time at which the last day ends.
func (r run) last() int { return len(r.Where) }

// inBox returns the pods that are in a box on a day.
func (r run) inBox(day, box int) pods {
	var p pods
	for pod, in := range r.Where[day] {
		if in == box {
			p = union(p, only(pod))
		}
	}
	return p
}

// spread returns the pods with mould once all those have it that are, on a day, in a box with one that has it.
func (r run) spread(day int, p pods) pods {
	for box := range r.Boxes {
		if in := r.inBox(day, box); in.meets(p) {
			p = union(p, in)
		}
	}
	return p
}

// leak returns the pods with mould once it went, on a day, over a set of pairs. What one pair does must not count for another one, so that each pair looks at what there was before.
func (r run) leak(day int, before pods, pairs int) pods {
	p := before
	for k, pair := range r.Near {
		both := union(r.inBox(day, pair.A), r.inBox(day, pair.B))
		if pairs>>k&1 == 1 && both.meets(before) {
			p = union(p, both)
		}
	}
	return p
}

// play returns the pods with mould at each time.
func (r run) play(t api.MouldTruth) []int {
	l := []int{t.First}
	for day := range r.last() {
		l = append(l, int(r.leak(day, r.spread(day, pods(l[day])), t.Leaks[day])))
	}
	return l
}

// agrees reports whether each sniff is the one that a truth gives.
func (r run) agrees(t api.MouldTruth, l []api.Sniff) bool {
	played := r.play(t)
	for _, s := range l {
		had := s.Time - r.Delay
		given := api.Sniff{Time: s.Time, Pod: s.Pod, Smells: had >= 0 && pods(played[had]).has(s.Pod)}
		if s != given {
			return false
		}
	}
	return true
}

// moment is a time, and the pods with mould then. What can follow depends on nothing else.
type moment struct {
	time int
	pods
}

// firsts yields what can be at the time 0.
func (r run) firsts() iter.Seq[moment] {
	return func(yield func(moment) bool) {
		for set := range 1 << r.Pods {
			if pods(set).many() <= r.Few && !yield(moment{0, pods(set)}) {
				return
			}
		}
	}
}

// after yields what can be at the time after a moment, some of it perhaps more than once; nothing follows the last time.
func (r run) after(m moment) iter.Seq[moment] {
	return func(yield func(moment) bool) {
		if m.time == r.last() {
			return
		}
		spread := r.spread(m.time, m.pods)
		for pairs := range 1 << len(r.Near) {
			if !yield(moment{m.time + 1, r.leak(m.time, spread, pairs)}) {
				return
			}
		}
	}
}

// boxesWithout returns the boxes of the last day that hold pods, and none of a set.
func (r run) boxesWithout(p pods) []int {
	var l []int
	where := r.Where[len(r.Where)-1]
boxes:
	for box := range r.Boxes {
		if !slices.Contains(where, box) {
			continue
		}
		for pod, in := range where {
			if in == box && p.has(pod) {
				continue boxes
			}
		}
		l = append(l, box)
	}
	return l
}
