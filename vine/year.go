package vine

import (
	"iter"

	"rostellum/api"
)

// year is a valid season with the shade of each day.
type year struct {
	api.Season
	shades []int
}

func newYear(s api.Season) year {
	y := year{Season: s, shades: make([]int, len(s.Days))}
	cut := make([]bool, len(s.Days))
	for _, day := range s.Cuts {
		cut[day] = true
	}
	shade := s.Shade.From
	for day := range len(s.Days) {
		if cut[day] {
			shade = y.cut(shade)
		}
		y.shades[day] = shade
		shade = y.grown(shade)
	}
	return y
}

// cut is what a shade becomes that is cut.
func (y year) cut(shade int) int { return min(shade, y.Shade.Cut) }

// grown is what a shade becomes to the next day.
func (y year) grown(shade int) int { return min(shade+y.Shade.Grows, api.VineShade) }

// heat is that of a day, with its warmth and its rain.
func (y year) heat(day, warm, rain int) int {
	if rain > y.Wet {
		return 0
	}
	return max(warm-y.Base, 0) * (api.VineShade - y.shades[day]) / api.VineShade
}

// heatsOf returns the heat of each day, with a truth.
func (y year) heatsOf(w api.Weather) []int {
	l := make([]int, len(y.Days))
	for day := range len(y.Days) {
		l[day] = y.heat(day, w.Warm[day], w.Rain[day])
	}
	return l
}

// heats yields all heats that a day can give, some of them more than once.
func (y year) heats(day int) iter.Seq[int] {
	return func(yield func(int) bool) {
		d := y.Days[day]
		// It only matters whether a rain is too much: the least and the greatest one are enough.
		if d.Rain.High > y.Wet && !yield(0) {
			return
		}
		for warm := d.Warm.Low; warm <= d.Warm.High; warm++ {
			if !yield(y.heat(day, warm, d.Rain.Low)) {
				return
			}
		}
	}
}

// extremes returns the least and the greatest heat of each day.
func (y year) extremes() (least, most []int) {
	least, most = make([]int, len(y.Days)), make([]int, len(y.Days))
	for day := range len(y.Days) {
		// No heat of a day is greater than the greatest warmth.
		least[day] = api.VineWarm
		for heat := range y.heats(day) {
			least[day] = min(least[day], heat)
			most[day] = max(most[day], heat)
		}
	}
	return least, most
}

// opening is the first day whose sum is enough; the number of days if there is none.
func opening(heats []int, need int) int {
	sum := 0
	for day, heat := range heats {
		sum += heat
		if sum >= need {
			return day
		}
	}
	return len(heats)
}

// blooms returns the number of flowers on each day, with the heats of the days.
func blooms(heats []int, l []api.Raceme) []int {
	flowers := make([]int, len(heats))
	for _, r := range l {
		first := opening(heats, r.Need)
		for day := first; day < min(first+r.Flowers, len(heats)); day++ {
			flowers[day]++
		}
	}
	return flowers
}
