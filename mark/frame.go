package mark

import (
	"iter"
	"math/bits"

	"rostellum/api"
)

// frame is a valid register, by whose marks dots are read.
type frame struct{ api.Register }

// canBe reports whether a reading can be of a mark.
func (f frame) canBe(reading, mark int) bool {
	return reading&^mark == 0 && bits.OnesCount(uint(mark&^reading)) <= f.Lost
}

// markOf returns the mark of the grower with a name; false if there is none.
func (f frame) markOf(name string) (int, bool) {
	for _, g := range f.Growers {
		if g.Name == name {
			return g.Mark, true
		}
	}
	return 0, false
}

// readings yields all readings that can be of a mark, each once: dots close one by one, and each one is lower than the one before.
func (f frame) readings(mark int) iter.Seq[int] {
	return func(yield func(int) bool) {
		var lose func(reading, below, lost int) bool
		lose = func(reading, below, lost int) bool {
			if !yield(reading) {
				return false
			}
			if lost == f.Lost {
				return true
			}
			for dot := range below {
				if reading>>dot&1 == 1 && !lose(reading&^(1<<dot), dot, lost+1) {
					return false
				}
			}
			return true
		}
		lose(mark, f.Dots, 0)
	}
}

// tally is how often each mark of a register could be meant.
type tally [api.MarkGrowers]int

// tally counts how often each mark could be meant by some readings.
func (f frame) tally(readings iter.Seq[int]) tally {
	var meant tally
	for reading := range readings {
		for i, g := range f.Growers {
			if f.canBe(reading, g.Mark) {
				meant[i]++
			}
		}
	}
	return meant
}

// clashes reports whether two marks of the register clash.
func (f frame) clashes() bool {
	for i, g := range f.Growers {
		others := f.tally(f.readings(g.Mark))
		others[i] = 0
		if others != (tally{}) {
			return true
		}
	}
	return false
}

// fresh returns the least mark that could be added; false if there is none.
func (f frame) fresh() (int, bool) {
	for mark := range 1 << f.Dots {
		if isEnough(mark, f.Lost) && f.tally(f.readings(mark)) == (tally{}) {
			return mark, true
		}
	}
	return 0, false
}
