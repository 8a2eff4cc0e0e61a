package cure

import "rostellum/api"

// quantity is what a number, or a span, is one of.
type quantity int

const (
	warmth quantity = iota
	inRow
	loss
	weight
	read
	wrong
	moisture
)

// limits are between what the quantities lie.
var limits = [...]api.Span{
	warmth:   {Low: 0, High: api.CureWarm},
	inRow:    {Low: 1, High: api.CureDays},
	loss:     {Low: 0, High: api.CureLoss},
	weight:   {Low: 1, High: api.CureWeight},
	read:     {Low: 0, High: api.CureWeight + api.CureWrong},
	wrong:    {Low: 0, High: api.CureWrong},
	moisture: {Low: 0, High: api.CureWhole},
}

func (q quantity) canBe(n int) bool { return isIn(n, limits[q]) }

// canLieIn reports whether a span is one of the quantity.
func (q quantity) canLieIn(s api.Span) bool { return !isEmpty(s) && isWithin(s, limits[q]) }

func isIn(n int, s api.Span) bool { return s.Low <= n && n <= s.High }

func isEmpty(s api.Span) bool { return s.Low > s.High }

// isWithin reports whether all of a span that is not empty is in another one.
func isWithin(s, other api.Span) bool { return other.Low <= s.Low && s.High <= other.High }

func isRule(r []api.CureAct) bool {
	if len(r) < 1 || len(r) > api.CureActs {
		return false
	}
	for _, a := range r {
		if !warmth.canBe(a.Warm) || !inRow.canBe(a.Most) || !loss.canLieIn(a.Loss) {
			return false
		}
		if a.Behind < 0 || a.Behind >= 1<<len(r) {
			return false
		}
	}
	return true
}

func areDays(l []api.CureDay) bool {
	if len(l) < 1 || len(l) > api.CureDays {
		return false
	}
	for _, d := range l {
		if !warmth.canLieIn(d.Warm) {
			return false
		}
	}
	return true
}

func isBox(b api.CureBox) bool { return weight.canLieIn(b.Weight) && weight.canLieIn(b.Solid) }

// areReads reports whether a list is one of readings after some of so many days.
func areReads(l []api.CureRead, days int) bool {
	if len(l) > api.CureReads {
		return false
	}
	for _, r := range l {
		if r.Day < 0 || r.Day > days || !read.canBe(r.Read) || !wrong.canBe(r.Wrong) {
			return false
		}
	}
	return true
}

// checkBox checks a rule, then days, and then a box.
func checkBox(r []api.CureAct, d []api.CureDay, b api.CureBox) api.Errno {
	if e := Check(r, d); e != api.OK {
		return e
	}
	if !isBox(b) {
		return api.ErrCureBox
	}
	return api.OK
}

// checkActs checks a rule, then days, then a box, and then acts.
func checkActs(r []api.CureAct, d []api.CureDay, b api.CureBox, acts []int) api.Errno {
	if e := checkBox(r, d, b); e != api.OK {
		return e
	}
	if _, ok := (course{r, d}).stageOf(acts); !ok {
		return api.ErrCureActs
	}
	return api.OK
}

// checkReads checks a rule, then days, then a box, then acts, and then readings.
func checkReads(r []api.CureAct, d []api.CureDay, b api.CureBox, acts []int, l []api.CureRead) api.Errno {
	if e := checkActs(r, d, b, acts); e != api.OK {
		return e
	}
	if !areReads(l, len(acts)) {
		return api.ErrCureRead
	}
	return api.OK
}

// weigh checks all that is given with readings, and returns between what the weights lie if they are true.
func weigh(r []api.CureAct, d []api.CureDay, b api.CureBox, acts []int, l []api.CureRead) (process, weights, api.Errno) {
	if e := checkReads(r, d, b, acts, l); e != api.OK {
		return process{}, weights{}, e
	}
	p := newProcess(r, b, acts)
	w, ok := p.weigh(l)
	if !ok {
		return process{}, weights{}, api.ErrCureClash
	}
	return p, w, api.OK
}
