package pod

import (
	"iter"

	"rostellum/api"
)

// windowed is what has a window, which may be empty.
type windowed interface{ window() api.Span }

func isEmpty(w api.Span) bool { return w.Low > w.High }

// days yields the days of a window.
func days(of windowed) iter.Seq[int] {
	return func(yield func(int) bool) {
		w := of.window()
		for day := w.Low; day <= w.High; day++ {
			if !yield(day) {
				return
			}
		}
	}
}

// pod is a valid pod.
type pod struct{ api.Pod }

// window is the days on which a pod is ripe and not split, even if it ripens as late, and splits as early, as can be.
func (p pod) window() api.Span {
	return api.Span{Low: p.Born + p.Ripe.High, High: p.Born + p.Ripe.Low + p.Hold.Low - 1}
}

// cutOn is the last of the rounds that are in the window of a pod.
func (p pod) cutOn(rounds []int) int {
	on := notCut
	for _, day := range rounds {
		if isIn(day, p.window()) {
			on = day
		}
	}
	return on
}

// offer is a pod in a market, and its place in the list of pods.
type offer struct {
	pod
	market api.Span
	index  int
}

// window is the days of the pod's window that are days of the market.
func (o offer) window() api.Span {
	w := o.pod.window()
	return api.Span{Low: max(w.Low, o.market.Low), High: min(w.High, o.market.High)}
}

func (o offer) lastDay() int { return o.window().High }

// offersOf returns the pods that can be served by a market.
func offersOf(l []api.Pod, market api.Span) []offer {
	var offers []offer
	for i, p := range l {
		o := offer{pod: pod{p}, market: market, index: i}
		if !isEmpty(o.window()) {
			offers = append(offers, o)
		}
	}
	return offers
}
