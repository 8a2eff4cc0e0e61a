package mould

import (
	"slices"

	"rostellum/api"
)

// clue is what is known of a time: which pods surely had mould then, and which surely had none.
type clue struct{ with, without pods }

func (c clue) allows(p pods) bool { return p&c.with == c.with && !p.meets(c.without) }

// clues returns what sniffs tell of each time, also of those before the time 0.
func (r run) clues(l []api.Sniff) map[int]clue {
	known := map[int]clue{}
	for _, s := range l {
		c := known[s.Time-r.Delay]
		if s.Smells {
			c.with = union(c.with, only(s.Pod))
		} else {
			c.without = union(c.without, only(s.Pod))
		}
		known[s.Time-r.Delay] = c
	}
	return known
}

// canBegin reports whether what is known of the times before the time 0 allows that no pod had mould then.
func canBegin(known map[int]clue) bool {
	for time, c := range known {
		if time < 0 && !c.allows(0) {
			return false
		}
	}
	return true
}

// chances tell of each set of pods whether it can be that of the pods with mould.
type chances [1 << api.MouldPods]bool

// can returns the pods that are in any set that can be.
func (c chances) can() pods {
	var p pods
	for set, is := range c {
		if is {
			p = union(p, pods(set))
		}
	}
	return p
}

// sure returns the pods that are in each set that can be.
func (c chances) sure() pods {
	p := pods(len(c) - 1)
	for set, is := range c {
		if is {
			p &= pods(set)
		}
	}
	return p
}

// chancesAt returns what can be at a time, by sniffs; false if no truth agrees.
func (r run) chancesAt(time int, l []api.Sniff) (chances, bool) {
	var c chances
	known := r.clues(l)
	if !canBegin(known) {
		return c, false
	}
	found := map[moment]bool{}
	var goesOn func(m moment) bool // whether a truth that agrees goes on from a moment
	goesOn = func(m moment) bool {
		if is, ok := found[m]; ok {
			return is
		}
		allowed := known[m.time].allows(m.pods)
		is := allowed && m.time == r.last()
		if allowed {
			// All that can follow is looked at, also when it is clear that something can: it may be what is asked for.
			for next := range r.after(m) {
				is = goesOn(next) || is
			}
		}
		found[m] = is
		if is && m.time == time {
			c[m.pods] = true
		}
		return is
	}
	for first := range r.firsts() {
		goesOn(first)
	}
	return c, c != chances{}
}

// chancesAtLast returns what can be at the last time, by sniffs; false if no truth agrees.
func (r run) chancesAtLast(l []api.Sniff) (chances, bool) { return r.chancesAt(r.last(), l) }

// smell is a sniff of a pod, at the last time, that smells.
func (r run) smell(pod int) api.Sniff { return api.Sniff{Time: r.last(), Pod: pod, Smells: true} }

// noSmell is one that does not smell.
func (r run) noSmell(pod int) api.Sniff { return api.Sniff{Time: r.last(), Pod: pod} }

// worst returns how many pods can have mould at most, at the last time, once a pod was sniffed then.
func (r run) worst(pod int, l []api.Sniff) int {
	most := 0
	for _, sniff := range []func(int) api.Sniff{r.smell, r.noSmell} {
		// If no truth allows what is smelt, no pod is in the chances, so that it does not count.
		c, _ := r.chancesAtLast(append(slices.Clone(l), sniff(pod)))
		most = max(most, c.can().many())
	}
	return most
}

// next returns the first of the pods of which the worst is least, and this worst.
func (r run) next(l []api.Sniff) (pod, worst int) {
	worst = api.MouldPods + 1
	for p := range r.Pods {
		if n := r.worst(p, l); n < worst {
			pod, worst = p, n
		}
	}
	return pod, worst
}
