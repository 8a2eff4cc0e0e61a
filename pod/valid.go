package pod

import (
	"rostellum/api"
	"rostellum/vine"
)

// isSpan reports whether a span lies between two numbers.
func isSpan(s api.Span, from, to int) bool { return from <= s.Low && s.Low <= s.High && s.High <= to }

func isIn(n int, s api.Span) bool { return s.Low <= n && n <= s.High }

func isPod(p api.Pod) bool {
	if !vine.IsWord(p.Tag) || p.Born < 0 || p.Born > api.PodBorn {
		return false
	}
	return isSpan(p.Ripe, 1, api.PodAge) && isSpan(p.Hold, 1, api.PodHold) && isSpan(p.Gain, 0, api.PodRate)
}

func arePods(l []api.Pod) bool {
	if len(l) > api.PodMany {
		return false
	}
	tags := map[string]bool{}
	for _, p := range l {
		if !isPod(p) || tags[p.Tag] {
			return false
		}
		tags[p.Tag] = true
	}
	return true
}

func isPlan(l []api.Pod, plan []int) bool {
	if len(plan) != len(l) {
		return false
	}
	for i, day := range plan {
		if day != notCut && (day < l[i].Born || day > api.PodLate) {
			return false
		}
	}
	return true
}

// isTruth reports whether there is a number in its span for each pod, three times.
func isTruth(l []api.Pod, t api.PodTruth) bool {
	if len(t.Ripe) != len(l) || len(t.Hold) != len(l) || len(t.Gain) != len(l) {
		return false
	}
	for i, p := range l {
		if !isIn(t.Ripe[i], p.Ripe) || !isIn(t.Hold[i], p.Hold) || !isIn(t.Gain[i], p.Gain) {
			return false
		}
	}
	return true
}

func areRounds(rounds []int) bool {
	if len(rounds) > api.PodRounds {
		return false
	}
	last := -1
	for _, day := range rounds {
		if day <= last || day > api.PodLate {
			return false
		}
		last = day
	}
	return true
}

// areOpenings reports whether a market of so many days that begins on any of these days ends in time.
func areOpenings(days api.Span, long int) bool {
	return 1 <= long && long <= api.PodAge && isSpan(days, 0, api.PodLate-long+1)
}

// checkPlan checks pods, and then a plan for them.
func checkPlan(l []api.Pod, plan []int) api.Errno {
	if e := Check(l); e != api.OK {
		return e
	}
	if !isPlan(l, plan) {
		return api.ErrPodPlan
	}
	return api.OK
}

// checkMarket checks pods, and then a market.
func checkMarket(l []api.Pod, market api.Span) api.Errno {
	if e := Check(l); e != api.OK {
		return e
	}
	if !isSpan(market, 0, api.PodLate) {
		return api.ErrPodPlan
	}
	return api.OK
}
