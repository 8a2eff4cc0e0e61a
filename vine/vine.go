// Package vine is layer 1: the shade and the heat of the days of a season, when racemes open, how many flowers open on a morning, when shade must be cut, and how many pods a vine bears.
package vine

import (
	"strings"

	"rostellum/api"
)

// IsWord reports whether a text is a word.
func IsWord(s string) bool {
	if s == "" || len(s) > api.MaxWord || !isLetter(s[0]) {
		return false
	}
	for i := range len(s) {
		if !isLetter(s[i]) && !isDigit(s[i]) && s[i] != '-' {
			return false
		}
	}
	return true
}

// Check checks a season.
func Check(s api.Season) api.Errno {
	if !areDays(s.Days) || !areCuts(s.Cuts, len(s.Days)) || !isShade(s.Shade) {
		return api.ErrVine
	}
	if !isUpTo(s.Base, api.VineWarm) || !isUpTo(s.Wet, api.VineRain) {
		return api.ErrVine
	}
	return api.OK
}

// CheckGarden checks a garden.
func CheckGarden(l []api.Vine) api.Errno {
	if !isGarden(l) {
		return api.ErrVineRow
	}
	return api.OK
}

// Shades returns the shade of each day.
func Shades(s api.Season) ([]int, api.Errno) {
	if e := Check(s); e != api.OK {
		return nil, e
	}
	return newYear(s).shades, api.OK
}

// Heats returns the heat of each day.
func Heats(s api.Season, w api.Weather) ([]int, api.Errno) {
	if e := Check(s); e != api.OK {
		return nil, e
	}
	if !isTruth(s, w) {
		return nil, api.ErrVineTruth
	}
	return newYear(s).heatsOf(w), api.OK
}

// Blooms returns the number of flowers on each day.
func Blooms(s api.Season, w api.Weather, l []api.Raceme) ([]int, api.Errno) {
	if e := checkBoth(s, l); e != api.OK {
		return nil, e
	}
	if !isTruth(s, w) {
		return nil, api.ErrVineTruth
	}
	return blooms(newYear(s).heatsOf(w), l), api.OK
}

// Opens returns the first and the last day on which a raceme can open.
func Opens(s api.Season, r api.Raceme) (api.Span, api.Errno) {
	if e := checkBoth(s, []api.Raceme{r}); e != api.OK {
		return api.Span{}, e
	}
	least, most := newYear(s).extremes()
	return api.Span{Low: opening(most, r.Need), High: opening(least, r.Need)}, api.OK
}

// Flowers returns the least and the greatest number of flowers on a day.
func Flowers(s api.Season, l []api.Raceme, day int) (api.Span, api.Errno) {
	if e := checkBoth(s, l); e != api.OK {
		return api.Span{}, e
	}
	if day < 0 || day >= len(s.Days) {
		return api.Span{}, api.ErrVineDay
	}
	y := newYear(s)
	fewer := morning{year: y, racemes: l, day: day, better: func(a, b int) bool { return a < b }}
	more := morning{year: y, racemes: l, day: day, better: func(a, b int) bool { return a > b }}
	return api.Span{Low: fewer.best(), High: more.best()}, api.OK
}

// Trim returns the fewest days on which shade must be cut.
func Trim(s api.Season) ([]int, api.Errno) {
	if e := Check(s); e != api.OK {
		return nil, e
	}
	cuts, ok := newYear(s).trim()
	if !ok {
		return nil, api.ErrNone
	}
	return cuts, api.OK
}

// Bears returns how many pods a vine bears.
func Bears(v api.Vine) (int, api.Errno) {
	if !isVine(v) {
		return 0, api.ErrVineRow
	}
	flowers := 0
	for _, r := range v.Racemes {
		flowers += r.Flowers
	}
	return min(v.Leaves/v.PerPod, flowers), api.OK
}

// Print returns the text of a garden.
func Print(l []api.Vine) (string, api.Errno) {
	if !isGarden(l) {
		return "", api.ErrVineRow
	}
	var b strings.Builder
	for _, v := range l {
		b.WriteString(line(tokens(v)...))
	}
	return b.String(), api.OK
}

// Parse returns the garden of a text.
func Parse(s string) ([]api.Vine, api.Errno) {
	if len(s) > api.MaxFile {
		return nil, api.ErrLimit
	}
	l, ok := read(s)
	if !ok || !isGarden(l) {
		return nil, api.ErrForm
	}
	return l, api.OK
}
