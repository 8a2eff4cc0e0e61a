package vine

import "rostellum/api"

func isLetter(c byte) bool { return 'a' <= c && c <= 'z' }

func isDigit(c byte) bool { return '0' <= c && c <= '9' }

// isUpTo reports whether a number is from 0 to the greatest one that is allowed.
func isUpTo(n, most int) bool { return 0 <= n && n <= most }

func isSpan(s api.Span, most int) bool {
	return 0 <= s.Low && s.Low <= s.High && s.High <= most
}

func isIn(n int, s api.Span) bool { return s.Low <= n && n <= s.High }

func areDays(l []api.VineDay) bool {
	if len(l) < 1 || len(l) > api.VineDays {
		return false
	}
	for _, d := range l {
		if !isSpan(d.Warm, api.VineWarm) || !isSpan(d.Rain, api.VineRain) {
			return false
		}
	}
	return true
}

// areCuts reports whether a list of days is strictly increasing, and in a season of so many days.
func areCuts(l []int, days int) bool {
	last := -1
	for _, day := range l {
		if day <= last || day >= days {
			return false
		}
		last = day
	}
	return true
}

func isShade(r api.ShadeRule) bool {
	return isUpTo(r.From, api.VineShade) && isUpTo(r.Grows, api.VineGrows) && isUpTo(r.Cut, api.VineShade) && isSpan(r.Good, api.VineShade)
}

func areRacemes(l []api.Raceme) bool {
	if len(l) > api.VineRacemes {
		return false
	}
	for _, r := range l {
		if !isUpTo(r.Need, api.VineNeed) || r.Flowers < 1 || r.Flowers > api.VineFlowers {
			return false
		}
	}
	return true
}

func isVine(v api.Vine) bool {
	if !IsWord(v.Tag) || !isUpTo(v.Leaves, api.VineLeaves) {
		return false
	}
	return 1 <= v.PerPod && v.PerPod <= api.VinePerPod && areRacemes(v.Racemes)
}

func isGarden(l []api.Vine) bool {
	if len(l) > api.VineMany {
		return false
	}
	tags := map[string]bool{}
	for _, v := range l {
		if !isVine(v) || tags[v.Tag] {
			return false
		}
		tags[v.Tag] = true
	}
	return true
}

// isTruth reports whether weather can be in a season.
func isTruth(s api.Season, w api.Weather) bool {
	if len(w.Warm) != len(s.Days) || len(w.Rain) != len(s.Days) {
		return false
	}
	for i, d := range s.Days {
		if !isIn(w.Warm[i], d.Warm) || !isIn(w.Rain[i], d.Rain) {
			return false
		}
	}
	return true
}

// checkBoth checks a season, and then racemes.
func checkBoth(s api.Season, l []api.Raceme) api.Errno {
	if e := Check(s); e != api.OK {
		return e
	}
	if !areRacemes(l) {
		return api.ErrVineRow
	}
	return api.OK
}
