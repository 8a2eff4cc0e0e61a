package cure

import (
	"slices"

	"rostellum/api"
)

// spanned is what tells between what a number lies.
type spanned interface{ span() api.Span }

// common is that part of a span which is in those of all others; it is turned if there is none.
func common[T spanned](s api.Span, others ...T) api.Span {
	for _, o := range others {
		s = api.Span{Low: max(s.Low, o.span().Low), High: min(s.High, o.span().High)}
	}
	return s
}

// reading is a reading that is true.
type reading struct{ api.CureRead }

func (r reading) span() api.Span { return api.Span{Low: r.Read - r.Wrong, High: r.Read + r.Wrong} }

// rest is what is left of a weight after a loss.
type rest struct{ weight, loss api.Span }

func (r rest) span() api.Span {
	return api.Span{Low: r.weight.Low - r.loss.High, High: r.weight.High - r.loss.Low}
}

// whole is what a weight was before a loss.
type whole struct{ weight, loss api.Span }

func (w whole) span() api.Span {
	return api.Span{Low: w.weight.Low + w.loss.Low, High: w.weight.High + w.loss.High}
}

// process is a box, and between what its losses lie, one after the other.
type process struct {
	api.CureBox
	losses []api.Span
}

// newProcess is a box that goes through acts of a rule.
func newProcess(r []api.CureAct, b api.CureBox, acts []int) process {
	p := process{b, make([]api.Span, len(acts))}
	for day := range len(acts) {
		p.losses[day] = r[acts[day]].Loss
	}
	return p
}

// weights are between what the weights after 0 days, after 1 day and so on lie, and behind them Solid: it is what would be left if at last all water were lost.
type weights [api.CureDays + 2]api.Span

// solidAt is where Solid stands in the weights.
func (p process) solidAt() int { return len(p.losses) + 1 }

// readingsAfter returns those of some readings that are after so many days.
func readingsAfter(day int, l []api.CureRead) []reading {
	var after []reading
	for _, r := range l {
		if r.Day == day {
			after = append(after, reading{r})
		}
	}
	return after
}

// weigh returns between what the weights lie if readings are true; false if they clash.
func (p process) weigh(l []api.CureRead) (weights, bool) {
	var w weights
	for day := range p.solidAt() {
		w[day] = limits[weight]
	}
	w[0], w[p.solidAt()] = p.Weight, p.Solid
	for day := range p.solidAt() {
		w[day] = common(w[day], readingsAfter(day, l)...)
	}
	return p.narrow(w)
}

// narrow returns what of some weights can be so together; false if nothing can. They stand in a row, so that all of them agree if each one agrees with those beside it.
func (p process) narrow(w weights) (weights, bool) {
	losses := append(slices.Clone(p.losses), api.Span{Low: 0, High: api.CureWeight})
narrower:
	for {
		before := w
		for day, lost := range losses {
			w[day+1] = common(w[day+1], rest{w[day], lost})
			w[day] = common(w[day], whole{w[day+1], lost})
			if isEmpty(w[day]) || isEmpty(w[day+1]) {
				return weights{}, false
			}
		}
		if w == before {
			break narrower
		}
	}
	return w, true
}

// driest returns those of some weights that can be so with the greatest Solid that can be.
func (p process) driest(w weights) weights {
	w[p.solidAt()].Low = w[p.solidAt()].High
	w, _ = p.narrow(w)
	return w
}

// moistures returns between what the moistures lie, with some weights. The greatest weights can be so with any Solid, and so with the least one. The least weights may be too little for the greatest Solid, but a gram more of it makes no weight more than a gram greater, and so no moisture greater: the least moistures are with all of it.
func (p process) moistures(w weights) []api.Span {
	solid, driest := w[p.solidAt()], p.driest(w)
	l := make([]api.Span, p.solidAt())
	for day := range l {
		l[day] = api.Span{Low: moistureOf(driest[day].Low, solid.High), High: moistureOf(w[day].High, solid.Low)}
	}
	return l
}

// surelyReaches reports whether something can be so, and whatever is, the last moisture lies in a limit.
func (p process) surelyReaches(limit api.Span) bool {
	w, ok := p.weigh(nil)
	if !ok {
		return false
	}
	l := p.moistures(w)
	return isWithin(l[len(l)-1], limit)
}

// odd returns the fewest readings without which the others do not clash, and of several the first ones; false if there are none.
func (p process) odd(l []api.CureRead) ([]int, bool) {
	var out []int
	var leaveOut func(many, from int) bool // whether many more can be left out, from an index on
	leaveOut = func(many, from int) bool {
		if many == 0 {
			_, ok := p.weigh(without(l, out))
			return ok
		}
		for i := from; i < len(l); i++ {
			out = append(out, i)
			if leaveOut(many-1, i+1) {
				return true
			}
			out = out[:len(out)-1]
		}
		return false
	}
	for many := range len(l) + 1 {
		if leaveOut(many, 0) {
			return out, true
		}
	}
	return nil, false
}

// without returns the readings whose indices are not among some.
func without(l []api.CureRead, out []int) []api.CureRead {
	var others []api.CureRead
	for i, r := range l {
		if !slices.Contains(out, i) {
			others = append(others, r)
		}
	}
	return others
}
