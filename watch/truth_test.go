package watch_test

// The promises, and the properties, against calculations that follow the document's words and try every path, every watch, all pairs and every set.

import (
	"cmp"
	"math/rand/v2"
	"slices"
	"testing"

	"rostellum/api"
	"rostellum/watch"
)

// shuffled returns so many of the pairs of some, in any order.
func shuffled(r *rand.Rand, of, many int) []api.WatchPair {
	l := firstPairs(of, of*of)
	r.Shuffle(len(l), func(a, b int) { l[a], l[b] = l[b], l[a] })
	return l[:min(many, len(l))]
}

// someMap returns a map with so many places and ways at most.
func someMap(r *rand.Rand, places, ways int) api.WatchMap {
	places = 1 + r.IntN(places)
	m := api.WatchMap{Places: places, Ways: shuffled(r, places, r.IntN(ways+1))}
	for i, w := range m.Ways {
		if r.IntN(2) == 0 {
			m.Ways[i] = api.WatchPair{A: w.B, B: w.A}
		}
	}
	m.Gates, m.Fields = r.IntN(1<<places), r.IntN(1<<places)
	if r.IntN(2) == 0 {
		m.Fields &^= m.Gates
	}
	return m
}

// someVillage returns a village with so many neighbours and pairs of trust at most.
func someVillage(r *rand.Rand, neighbours, trust int) api.WatchVillage {
	neighbours = 1 + r.IntN(neighbours)
	return api.WatchVillage{Neighbours: neighbours, Trust: shuffled(r, neighbours, r.IntN(trust+1))}
}

// isJoined reports whether there is a way between two places.
func isJoined(m api.WatchMap, a, b int) bool {
	for _, w := range m.Ways {
		if w.A == a && w.B == b || w.A == b && w.B == a {
			return true
		}
	}
	return false
}

// isPath follows what a path is, by the document's words.
func isPath(m api.WatchMap, path []int) bool {
	if len(path) == 0 || m.Gates&(1<<path[0]) == 0 || m.Fields&(1<<path[len(path)-1]) == 0 {
		return false
	}
	for i, place := range path {
		if place < 0 || place >= m.Places || slices.Contains(path[:i], place) {
			return false
		}
		if i > 0 && !isJoined(m, path[i-1], place) {
			return false
		}
	}
	return true
}

// allPaths returns every path of a map, as a list and as a set.
func allPaths(m api.WatchMap) (l [][]int, sets []int) {
	var path []int
	var further func(set int)
	further = func(set int) {
		if isPath(m, path) {
			l, sets = append(l, slices.Clone(path)), append(sets, set)
		}
		for place := range m.Places {
			if set&(1<<place) == 0 && (len(path) == 0 && m.Gates&(1<<place) != 0 || len(path) > 0 && isJoined(m, path[len(path)-1], place)) {
				path = append(path, place)
				further(set | 1<<place)
				path = path[:len(path)-1]
			}
		}
	}
	further(0)
	return l, sets
}

func list(set int) []int {
	var l []int
	for one := range 12 {
		if set&(1<<one) != 0 {
			l = append(l, one)
		}
	}
	return l
}

// first returns the first of the shortest lists.
func first(l [][]int) []int {
	return slices.MinFunc(l, func(a, b []int) int { return cmp.Or(cmp.Compare(len(a), len(b)), slices.Compare(a, b)) })
}

// guards reports whether a watch stops all paths.
func guards(sets []int, watch int) bool {
	return !slices.ContainsFunc(sets, func(s int) bool { return s&watch == 0 })
}

// P4.2: of all paths that are not stopped, the first one of the shortest ones.
func TestThiefOfAllPaths(t *testing.T) {
	r := rand.New(rand.NewPCG(4, 2))
	stopped := 0
	for range 1000 {
		m := someMap(r, 7, 12)
		l, sets := allPaths(m)
		for range 5 {
			w := r.IntN(1<<m.Places) & r.IntN(1<<m.Places)
			var free [][]int
			for i := range l {
				if sets[i]&w == 0 {
					free = append(free, l[i])
				}
			}
			path, e := watch.Thief(m, w)
			if len(free) == 0 {
				stopped++
				want(t, "guarded", path, nil, e, api.ErrNone)
			} else {
				want(t, "not guarded", path, first(free), e, api.OK)
			}
		}
	}
	if stopped == 0 || stopped == 5000 {
		t.Errorf("%d watches guard", stopped)
	}
}

// wantPosts compares the posts with the first of the smallest watches, each of which is tried, and returns how many they are.
func wantPosts(t *testing.T, m api.WatchMap) int {
	t.Helper()
	_, sets := allPaths(m)
	var good [][]int
	for w := range 1 << m.Places {
		if guards(sets, w) {
			good = append(good, list(w))
		}
	}
	posts, e := watch.Posts(m)
	want(t, "Posts", posts, first(good), e, api.OK)
	wantPaths(t, "Paths", m, len(posts))
	return len(posts)
}

// P4.3, P4.7: no watch on fewer places guards a map, and as many paths as there are posts have no place in common.
func TestPostsOfAllWatches(t *testing.T) {
	r := rand.New(rand.NewPCG(4, 3))
	seen := map[int]int{}
	for range 1500 {
		seen[wantPosts(t, someMap(r, 7, 12))]++
	}
	for range 40 {
		seen[wantPosts(t, someMap(r, 10, 20))]++
	}
	for posts := range 5 {
		if seen[posts] == 0 {
			t.Errorf("no map with %d posts", posts)
		}
	}
}

// P4.3: paths that were found first are led elsewhere if there is room for more only then.
func TestPathsThatGiveWay(t *testing.T) {
	for name, x := range map[string]struct {
		m    api.WatchMap
		many int
	}{
		"crossed":     {api.WatchMap{Places: 6, Ways: pairs(0, 1, 0, 3, 1, 2, 1, 4, 3, 4, 4, 5), Gates: 9, Fields: 36}, 2},
		"a field on":  {api.WatchMap{Places: 3, Ways: pairs(0, 1, 1, 2, 0, 2), Gates: 5, Fields: 6}, 2},
		"gates first": {api.WatchMap{Places: 4, Ways: pairs(0, 1, 1, 2, 2, 3), Gates: 3, Fields: 12}, 1},
		"three":       {api.WatchMap{Places: 9, Ways: pairs(0, 3, 0, 4, 1, 3, 1, 5, 2, 4, 3, 6, 3, 7, 4, 6, 5, 6, 5, 8), Gates: 7, Fields: 448}, 3},
	} {
		wantPaths(t, name, x.m, x.many)
		if n := wantPosts(t, x.m); n != x.many {
			t.Errorf("%s: %d posts", name, n)
		}
	}
}

// arePairs follows what pairs are, by the document's words.
func arePairs(v api.WatchVillage, l []api.WatchPair) bool {
	seen := map[int]bool{}
	for _, p := range l {
		if !slices.Contains(v.Trust, p) || seen[p.A] || seen[p.B] {
			return false
		}
		seen[p.A], seen[p.B] = true, true
	}
	return true
}

// mostPairs is how many pairs there are at most: each pair of trust is made, and is not.
func mostPairs(v api.WatchVillage) int {
	most := 0
	var chosen []api.WatchPair
	var choose func(i int)
	choose = func(i int) {
		most = max(most, len(chosen))
		if i == len(v.Trust) {
			return
		}
		choose(i + 1)
		chosen = append(chosen, v.Trust[i])
		if arePairs(v, chosen) {
			choose(i + 1)
		}
		chosen = chosen[:len(chosen)-1]
	}
	choose(0)
	return most
}

// odd follows the parts of a village without a set: whoever is joined by a chain bears the same name in the end.
func odd(v api.WatchVillage, without int) int {
	names := make([]int, v.Neighbours)
	for one := range names {
		names[one] = one
	}
	for _, p := range v.Trust {
		if without&(1<<p.A|1<<p.B) != 0 {
			continue
		}
		from, to := names[p.A], names[p.B]
		for one := range names {
			if names[one] == from {
				names[one] = to
			}
		}
	}
	sizes := map[int]int{}
	for one, name := range names {
		if without&(1<<one) == 0 {
			sizes[name]++
		}
	}
	n := 0
	for _, size := range sizes {
		n += size % 2
	}
	return n
}

// number follows the number of a set, by the document's words.
func number(v api.WatchVillage, set int) int {
	return (v.Neighbours + len(list(set)) - odd(v, set)) / 2
}

// P4.4, P4.8: no pairs are more than those that are returned, and no set has a lesser number than that of the proof.
func TestPairsOfAll(t *testing.T) {
	r := rand.New(rand.NewPCG(4, 4))
	for range 1000 {
		v := someVillage(r, 8, 14)
		most := mostPairs(v)
		wantPairs(t, "any", v, most)
		for set := range 1 << v.Neighbours {
			n, e := watch.Odd(v, set)
			want(t, "Odd", n, odd(v, set), e, api.OK)
			if number(v, set) < most {
				t.Errorf("%v: the set %d has a lesser number than there are pairs", v, set)
			}
		}
	}
}

// P4.4, P4.8: large villages; since the number of the proof is how many pairs there are, there cannot be more.
func TestPairsOfLargeVillages(t *testing.T) {
	r := rand.New(rand.NewPCG(4, 8))
	for range 1000 {
		v := api.WatchVillage{Neighbours: 12, Trust: shuffled(r, 12, r.IntN(41))}
		l, e := watch.Pairs(v)
		if e != api.OK {
			t.Fatalf("Pairs(%v): %d", v, e)
		}
		wantPairs(t, "large", v, len(l))
		set := r.IntN(1 << 12)
		n, e := watch.Odd(v, set)
		want(t, "Odd", n, odd(v, set), e, api.OK)
	}
}

// isRound follows what a round is, by the document's words: it says nothing of how many nights it has.
func isRound(m api.WatchMap, v api.WatchVillage, round [][]api.WatchDuty) bool {
	posts, e := watch.Posts(m)
	if e != api.OK {
		return false
	}
	var all []api.WatchPair
	for _, night := range round {
		var places []int
		for _, d := range night {
			places = append(places, d.Place)
			all = append(all, api.WatchPair{A: d.A, B: d.B})
		}
		if !slices.Equal(places, posts) {
			return false
		}
	}
	return arePairs(v, all)
}

// without is a village in which nobody trusts a neighbour, nor is trusted by it.
func without(v api.WatchVillage, one int) api.WatchVillage {
	return api.WatchVillage{Neighbours: v.Neighbours, Trust: slices.DeleteFunc(slices.Clone(v.Trust), func(p api.WatchPair) bool { return p.A == one || p.B == one })}
}

// P4.5, P4.9: there is a round if and only if there are enough pairs; each of its nights stops all paths, and nobody watches twice.
func TestRoundsOfAll(t *testing.T) {
	r := rand.New(rand.NewPCG(4, 5))
	seen := map[int]int{}
	for range 400 {
		m, v := someMap(r, 6, 8), someVillage(r, 9, 12)
		posts, _ := watch.Posts(m)
		pairs := mostPairs(v)
		most := 0
		for nights := range 13 {
			if nights*len(posts) <= pairs {
				most = nights
			}
		}
		seen[most]++
		wantRounds(t, "any", m, v, most)
		wantAllNeeded(t, m, v, len(posts), pairs)
		_, sets := allPaths(m)
		round, _ := watch.Round(m, v, most)
		for _, night := range round {
			w := 0
			for _, d := range night {
				w |= 1 << d.Place
			}
			if !guards(sets, w) {
				t.Errorf("Round(%v, %v, %d): %v does not stop all paths", m, v, most, round)
			}
		}
	}
	for _, nights := range []int{0, 1, 2, 3, 12} {
		if seen[nights] == 0 {
			t.Errorf("no round of %d nights", nights)
		}
	}
}

// wantAllNeeded compares Needed, for each number of nights, with the villages that miss one neighbour each.
func wantAllNeeded(t *testing.T, m api.WatchMap, v api.WatchVillage, posts, pairs int) {
	t.Helper()
	for nights := range 13 {
		needed, e := watch.Needed(m, v, nights)
		if nights*posts > pairs {
			want(t, "Needed", needed, nil, e, api.ErrNone)
			continue
		}
		var l []int
		for one := range v.Neighbours {
			if mostPairs(without(v, one)) < nights*posts {
				l = append(l, one)
			}
		}
		want(t, "Needed", needed, l, e, api.OK)
	}
}

// counts returns the numbers of posts, pairs and nights.
func counts(m api.WatchMap, v api.WatchVillage) (posts, pairs, nights int) {
	l, _ := watch.Posts(m)
	couples, _ := watch.Pairs(v)
	nights, _ = watch.Nights(m, v)
	return len(l), len(couples), nights
}

// P4.10: with more ways, gates or fields there are not fewer posts; with more trust there are not fewer pairs, or nights.
func TestMore(t *testing.T) {
	r := rand.New(rand.NewPCG(4, 10))
	grown := 0
	for range 300 {
		m, v := someMap(r, 8, 12), someVillage(r, 12, 20)
		more, friends := m, v
		more.Ways, friends.Trust = slices.Clone(m.Ways), slices.Clone(v.Trust)
		for _, p := range shuffled(r, m.Places, 8) {
			if !isJoined(more, p.A, p.B) {
				more.Ways = append(more.Ways, p)
			}
		}
		more.Gates |= r.IntN(1 << m.Places)
		more.Fields |= r.IntN(1 << m.Places)
		for _, p := range shuffled(r, v.Neighbours, 10) {
			if !slices.Contains(friends.Trust, p) {
				friends.Trust = append(friends.Trust, p)
			}
		}
		posts, pairs, nights := counts(m, v)
		morePosts, morePairs, moreNights := counts(more, friends)
		_, _, nightsOfFriends := counts(m, friends)
		if morePosts < posts || morePairs < pairs || nightsOfFriends < nights || moreNights > nightsOfFriends {
			t.Errorf("%v, %v: %d, %d, %d; %v, %v: %d, %d, %d", m, v, posts, pairs, nights, more, friends, morePosts, morePairs, nightsOfFriends)
		}
		if morePosts > posts && morePairs > pairs && nightsOfFriends > nights {
			grown++
		}
	}
	if grown == 0 {
		t.Error("with more of everything nothing grew")
	}
}
