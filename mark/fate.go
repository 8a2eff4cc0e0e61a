package mark

import (
	"cmp"

	"rostellum/api"
)

// pod is a pod in the calculation: its fate so far, and the frame by which its notes are read.
type pod struct {
	api.Fate
	frame
}

// rule is what must be so of a pod and a note for the note to count, and what the note does then.
type rule struct {
	needs []func(*pod, api.MarkNote) bool
	does  func(*pod, api.MarkNote)
}

// rules are those of all kinds of notes.
func rules() map[int]rule {
	type needs = []func(*pod, api.MarkNote) bool
	return map[int]rule{
		api.NotePrick: {needs{(*pod).isUnknown, (*pod).isByGrower}, (*pod).prick},
		api.NoteCut:   {needs{(*pod).isPricked, (*pod).isByOwner}, (*pod).cut},
		api.NoteSell:  {needs{(*pod).isCut, (*pod).isByOwner, (*pod).isRead}, (*pod).sell},
		api.NoteTheft: {needs{(*pod).isToSteal, (*pod).isByOwner}, (*pod).steal},
	}
}

func (p *pod) isUnknown(api.MarkNote) bool { return p.State == api.PodUnknown }

func (p *pod) isPricked(api.MarkNote) bool { return p.State == api.PodPricked }

func (p *pod) isCut(api.MarkNote) bool { return p.State == api.PodCut }

func (p *pod) isToSteal(n api.MarkNote) bool { return p.isPricked(n) || p.isCut(n) }

func (p *pod) isByGrower(n api.MarkNote) bool {
	_, ok := p.markOf(n.Who)
	return ok
}

func (p *pod) isByOwner(n api.MarkNote) bool { return n.Who == p.Owner }

// isRead reports whether what was read can be of the mark of the pod's grower.
func (p *pod) isRead(n api.MarkNote) bool {
	mark, ok := p.markOf(p.Owner)
	return ok && p.canBe(n.Read, mark)
}

func (p *pod) prick(n api.MarkNote) { p.State, p.Owner, p.Prick = api.PodPricked, n.Who, n.Id }

func (p *pod) cut(n api.MarkNote) { p.State, p.Cut = api.PodCut, n.Id }

func (p *pod) sell(n api.MarkNote) { p.State, p.Sell = api.PodSold, n.Id }

func (p *pod) steal(n api.MarkNote) { p.State, p.Gone = api.PodStolen, n.Id }

// play plays the notes of a book: it returns the fates of the pods that they name, and the Ids of the notes that do not count.
func (f frame) play(book []api.MarkNote) (fates []api.Fate, void []int) {
	pods := map[string]*pod{}
	for _, n := range book {
		pods[n.Pod] = &pod{Fate: api.Fate{Pod: n.Pod}, frame: f}
	}
	byDay := func(a, b api.MarkNote) int { return cmp.Or(cmp.Compare(a.Day, b.Day), cmp.Compare(a.Id, b.Id)) }
	known := rules()
notes:
	for _, n := range sorted(book, byDay) {
		p, r := pods[n.Pod], known[n.Kind]
		for _, isSo := range r.needs {
			if !isSo(p, n) {
				void = append(void, n.Id)
				continue notes
			}
		}
		r.does(p, n)
	}
	for _, p := range pods {
		fates = append(fates, p.Fate)
	}
	byPod := func(a, b api.Fate) int { return cmp.Compare(a.Pod, b.Pod) }
	return sorted(fates, byPod), sorted(void, cmp.Compare[int])
}
