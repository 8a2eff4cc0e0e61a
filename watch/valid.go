package watch

import "rostellum/api"

// isSet reports whether a number is a set of some of so many.
func isSet(n, many int) bool { return 0 <= n && n < 1<<many }

// areLinks reports whether each link joins two different ones of so many, the lower one of which comes first, and no two links the same two.
func areLinks(l []link, many int) bool {
	seen := map[api.WatchPair]bool{}
	for _, x := range l {
		low, high := x.ends()
		p := api.WatchPair{A: low, B: high}
		if low < 0 || low >= high || high >= many || seen[p] {
			return false
		}
		seen[p] = true
	}
	return true
}

func isMap(m api.WatchMap) bool {
	if m.Places < 1 || m.Places > api.WatchPlaces || len(m.Ways) > api.WatchWays {
		return false
	}
	return areLinks(waysOf(m), m.Places) && isSet(m.Gates, m.Places) && isSet(m.Fields, m.Places)
}

func isVillage(v api.WatchVillage) bool {
	if v.Neighbours < 1 || v.Neighbours > api.WatchNeighbours || len(v.Trust) > api.WatchPairs {
		return false
	}
	return areLinks(trustOf(v), v.Neighbours)
}

// checkBoth checks a map, and then a village.
func checkBoth(m api.WatchMap, v api.WatchVillage) api.Errno {
	if e := CheckMap(m); e != api.OK {
		return e
	}
	return CheckVillage(v)
}

// checkNights checks a map, then a village, and then a number of nights.
func checkNights(m api.WatchMap, v api.WatchVillage, nights int) api.Errno {
	if e := checkBoth(m, v); e != api.OK {
		return e
	}
	if nights < 0 || nights > api.WatchNights {
		return api.ErrRange
	}
	return api.OK
}
