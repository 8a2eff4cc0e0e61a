package hands

import (
	"cmp"
	"iter"

	"rostellum/api"
)

// least is the least of several numbers.
func least[T cmp.Ordered](first T, others ...T) T {
	for _, n := range others {
		first = min(first, n)
	}
	return first
}

// set is a set of vines.
type set int

func (s set) has(vine int) bool { return s>>vine&1 == 1 }

// hand is a hand in a season with these vines.
type hand struct {
	api.HandsHand
	garden []api.HandsVine
}

func handsOf(s api.HandsSeason) []hand {
	l := make([]hand, len(s.Hands))
	for i, h := range s.Hands {
		l[i] = hand{HandsHand: h, garden: s.Vines}
	}
	return l
}

// can reports whether the hand can pollinate a vine in an hour.
func (h hand) can(hour, vine int) bool {
	v := h.garden[vine]
	return set(h.Vines).has(vine) && h.From <= hour && hour <= h.To && v.From <= hour && hour <= v.To
}

// hours yields the hours in which the hand can pollinate a vine.
func (h hand) hours(vine int) iter.Seq[int] {
	return func(yield func(int) bool) {
		for hour := range api.HandsHours {
			if h.can(hour, vine) && !yield(hour) {
				return
			}
		}
	}
}

// busy is the number of hours in which the hand can pollinate some vine that is not counted.
func (h hand) busy(counted func(vine int) bool) int {
	hours := map[int]bool{}
	for vine := range len(h.garden) {
		if counted(vine) {
			continue
		}
		for hour := range h.hours(vine) {
			hours[hour] = true
		}
	}
	return len(hours)
}

// shift is a hand in an hour of a morning, or in all of them.
type shift struct{ morning, hand, hour int }

// allHours stands for the hours of a morning together.
const allHours = -1

// ability is how many flowers the hands still can pollinate in each shift.
type ability map[shift]int

func whatIsLeft(s api.HandsSeason) ability {
	left := ability{}
	for morning := range len(s.Flowers) {
		for i, h := range s.Hands {
			left[shift{morning, i, allHours}] = h.Day
			for hour := range api.HandsHours {
				left[shift{morning, i, hour}] = h.Rate
			}
		}
	}
	return left
}

// take takes a job from what is left; false if it is none, or too much.
func (a ability) take(j api.HandsJob) bool {
	day, hour := shift{j.Morning, j.Hand, allHours}, shift{j.Morning, j.Hand, j.Hour}
	if j.Many < 1 || j.Many > least(a[day], a[hour]) {
		return false
	}
	a[day] -= j.Many
	a[hour] -= j.Many
	return true
}
