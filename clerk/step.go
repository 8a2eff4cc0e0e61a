package clerk

import "rostellum/api"

// What is done with a pod.
const (
	pricking = iota
	cutting
	stealing
	weighing
	boxing
	tinning
	selling
)

// states tells of each state whether a pod can be in it.
type states [api.PodPaid + 1]bool

// and returns these states and one more.
func (s states) and(state int) states {
	s[state] = true
	return s
}

// step is in which states a pod can be when something is done with it, and in which one it is then.
type step struct {
	before states
	after  int
}

// steps are what is done with pods. A pod that is weighed stays in its state; the state of one that is sold is not asked for, as its tin decides.
var steps = [...]step{
	pricking: {before: states{api.PodHangs: true}, after: api.PodMarked},
	cutting:  {before: states{api.PodMarked: true}, after: api.PodInHand},
	stealing: {before: states{api.PodMarked: true, api.PodInHand: true}, after: api.PodGone},
	weighing: {before: states{api.PodInHand: true, api.PodBoxed: true}},
	boxing:   {before: states{api.PodInHand: true, api.PodBoxed: true}, after: api.PodBoxed},
	tinning:  {before: states{api.PodBoxed: true}, after: api.PodTinned},
	selling:  {after: api.PodPaid},
}

// can reports whether something can be done with a pod.
func (b *books) can(what, pod int) bool {
	before := steps[what].before
	return before.and(b.pods[pod].State) == before
}

// check checks whether there is a pod with which something can be done.
func (b *books) check(what, pod int) api.Errno {
	if pod < 0 {
		return api.ErrClerkUnknown
	}
	if !b.can(what, pod) {
		return api.ErrClerkState
	}
	return api.OK
}

// take takes a step with a pod.
func (b *books) take(what, pod int) { b.pods[pod].State = steps[what].after }
