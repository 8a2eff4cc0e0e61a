package cure

import (
	"iter"

	"rostellum/api"
)

// course is a rule and days for which it is a rule.
type course struct {
	rule []api.CureAct
	days []api.CureDay
}

// act is an act in a rule.
type act struct {
	api.CureAct
	number int
}

// none stands for the number of the act before the first one.
const none = -1

// stage is how far acts have come. What can follow them, and how moist a box is after them, depends on nothing else.
type stage struct {
	done      int // on how many days
	last, row int // the last act, and on how many days in a row
	lost      api.Span
}

func start() stage { return stage{last: none} }

// with is the stage after one more act.
func (s stage) with(a act) stage {
	next := stage{done: s.done + 1, last: a.number, row: 1}
	if a.number == s.last {
		next.row += s.row
	}
	next.lost = api.Span{Low: s.lost.Low + a.Loss.Low, High: s.lost.High + a.Loss.High}
	return next
}

// day is a day, and the stage on its morning.
type day struct {
	api.CureDay
	stage
}

func (d day) isWarmFor(a act) bool { return d.Warm.Low >= a.Warm }

func (d day) isDryFor(a act) bool { return !(a.Dry && d.Rain) }

func (d day) isOnTimeFor(a act) bool {
	if d.last == none {
		return a.First
	}
	return d.last == a.number || a.Behind>>d.last&1 == 1
}

func (d day) isNotTooLateFor(a act) bool { return d.last != a.number || d.row < a.Most }

// questions are what is asked of a day for an act.
func questions() [4]func(day, act) bool {
	return [...]func(day, act) bool{day.isWarmFor, day.isDryFor, day.isOnTimeFor, day.isNotTooLateFor}
}

// after yields the stages to which one more act leads, by the number of the act.
func (c course) after(s stage) iter.Seq[stage] {
	return func(yield func(stage) bool) {
		if s.done == len(c.days) {
			return
		}
		today := day{c.days[s.done], s}
	acts:
		for number, a := range c.rule {
			next := act{a, number}
			for _, isSo := range questions() {
				if !isSo(today, next) {
					continue acts
				}
			}
			if !yield(s.with(next)) {
				return
			}
		}
	}
}

// stageOf returns the stage after acts; false if they cannot be.
func (c course) stageOf(acts []int) (stage, bool) {
	s := start()
acts:
	for _, number := range acts {
		for next := range c.after(s) {
			if next.last == number {
				s = next
				continue acts
			}
		}
		return stage{}, false
	}
	return s, true
}

// plan returns the fewest acts after which it is so, and of several the first ones; false if there are none.
func (c course) plan(isSo func(stage) bool) ([]int, bool) {
	const never = api.CureDays + 1
	known := map[stage]int{}
	var left func(s stage) int // how many more acts it takes
	left = func(s stage) int {
		if n, ok := known[s]; ok {
			return n
		}
		if isSo(s) {
			known[s] = 0
			return 0
		}
		n := never
		for next := range c.after(s) {
			n = min(n, 1+left(next))
		}
		known[s] = n
		return n
	}
	s := start()
	many := left(s)
	if many == never {
		return nil, false
	}
	acts := make([]int, many)
	for day := range many {
		for next := range c.after(s) {
			if left(next) == many-day-1 {
				acts[day], s = next.last, next
				break
			}
		}
	}
	return acts, true
}
