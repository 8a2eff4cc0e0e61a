package clerk

import (
	"iter"
	"slices"

	"rostellum/api"
	"rostellum/tin"
)

// books are what a valley keeps.
type books struct {
	register api.Register
	roots    []string
	day      int
	market   api.Span
	vines    []api.ValleyVine
	pods     []api.ValleyPod
	boxes    []api.ValleyBox
	tins     []api.ValleyTin
	purses   []api.ValleyPurse // of all growers, in order
	sums     api.ValleySums
	notes    []api.SealNote
	marks    []api.MarkNote
	journal  []string
}

// booksOf returns the books of a valid setup.
func booksOf(s api.ValleySetup) books {
	b := books{register: s.Register, roots: slices.Clone(s.Roots), day: s.Day}
	b.register.Growers = slices.Clone(s.Register.Growers)
	b.purses = make([]api.ValleyPurse, len(b.register.Growers))
	b.market = api.Span{Low: 0, High: -1} // no day is in it
	return b
}

func (b *books) growerAt(name string) int {
	return slices.IndexFunc(b.register.Growers, func(g api.Grower) bool { return g.Name == name })
}

func (b *books) vineAt(name string) int {
	return slices.IndexFunc(b.vines, func(v api.ValleyVine) bool { return v.Name == name })
}

func (b *books) podAt(name string) int {
	return slices.IndexFunc(b.pods, func(p api.ValleyPod) bool { return p.Name == name })
}

func (b *books) boxAt(name string) int {
	return slices.IndexFunc(b.boxes, func(x api.ValleyBox) bool { return x.Name == name })
}

func (b *books) tinAt(code string) int {
	return slices.IndexFunc(b.tins, func(t api.ValleyTin) bool { return t.Code == code })
}

// isThere reports whether anything has a name.
func (b *books) isThere(name string) bool {
	return max(b.growerAt(name), b.vineAt(name), b.podAt(name), b.boxAt(name), b.tinAt(name)) >= 0
}

// podsAt returns the indices of some pods; false if one of them is none.
func (b *books) podsAt(names []string) ([]int, bool) {
	var l []int
	for _, name := range names {
		l = append(l, b.podAt(name))
	}
	return l, !slices.Contains(l, -1)
}

// growerOf returns the index of the grower of a pod.
func (b *books) growerOf(pod int) int { return b.vines[b.pods[pod].Vine].Grower }

// growerName returns the name of the grower of a pod.
func (b *books) growerName(pod int) string { return b.register.Growers[b.growerOf(pod)].Name }

// podsIn yields the indices of the pods that are in a box.
func (b *books) podsIn(box int) iter.Seq[int] {
	return func(yield func(int) bool) {
		for i := range len(b.pods) {
			if b.pods[i].Box == box && !yield(i) {
				return
			}
		}
	}
}

// write adds a note about a pod to the book of marks.
func (b *books) write(pod int, n api.MarkNote) {
	n.Id, n.Pod, n.Who, n.Day = len(b.marks)+1, b.pods[pod].Name, b.growerName(pod), b.day
	b.marks = append(b.marks, n)
}

// list returns the text of a list of all tins.
func (b *books) list() (string, api.Errno) {
	var l []api.Tin
	for _, t := range b.tins {
		var names []string
		for _, i := range t.Pods {
			names = append(names, b.pods[i].Name)
		}
		slices.Sort(names)
		l = append(l, api.Tin{Code: t.Code, Grade: t.Grade, Weight: t.Weight.Low, Marks: names})
	}
	return tin.Print(l)
}

// handed returns a list as new memory; who appends to it gets to nothing else.
func handed[T any](l []T) []T {
	l = slices.Clone(l)
	return l[:len(l):len(l)]
}
