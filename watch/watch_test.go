package watch_test

import (
	"math/rand/v2"
	"reflect"
	"slices"
	"testing"

	"rostellum/api"
	"rostellum/watch"
)

const lowest, highest = -1 << 63, 1<<63 - 1

// pairs are made of numbers, two by two.
func pairs(ends ...int) []api.WatchPair {
	var l []api.WatchPair
	for i := 0; i < len(ends); i += 2 {
		l = append(l, api.WatchPair{A: ends[i], B: ends[i+1]})
	}
	return l
}

// valley is the map of the document's examples.
func valley() api.WatchMap {
	return api.WatchMap{Places: 6, Ways: pairs(0, 3, 1, 3, 2, 3, 3, 4, 2, 5), Gates: 7, Fields: 48}
}

// village is that of the document's examples.
func village() api.WatchVillage {
	return api.WatchVillage{Neighbours: 7, Trust: pairs(0, 1, 0, 2, 0, 3, 4, 5, 4, 6, 5, 6)}
}

// mapWith is the map of the examples, changed.
func mapWith(change func(m *api.WatchMap)) api.WatchMap {
	m := valley()
	change(&m)
	return m
}

// villageWith is the village of the examples, changed.
func villageWith(change func(v *api.WatchVillage)) api.WatchVillage {
	v := village()
	change(&v)
	return v
}

// firstPairs are the first pairs of so many.
func firstPairs(of, many int) []api.WatchPair {
	var l []api.WatchPair
	for b := range of {
		for a := range b {
			if len(l) < many {
				l = append(l, api.WatchPair{A: a, B: b})
			}
		}
	}
	return l
}

// fullMap is a map at its limits, of which half of the ways name the higher place first.
func fullMap() api.WatchMap {
	ways := firstPairs(10, 20)
	for i := range ways {
		if i%2 == 1 {
			ways[i].A, ways[i].B = ways[i].B, ways[i].A
		}
	}
	return api.WatchMap{Places: 10, Ways: ways, Gates: 1023, Fields: 1023}
}

// fullVillage is a village at its limits.
func fullVillage() api.WatchVillage {
	return api.WatchVillage{Neighbours: 12, Trust: firstPairs(12, 40)}
}

// ring is a map or a village in which each one is joined with the next one, and the last one with the first one.
func ring(many int) []api.WatchPair {
	l := pairs(0, many-1)
	for i := range many - 1 {
		l = append(l, api.WatchPair{A: i, B: i + 1})
	}
	return l
}

func wrongMaps() map[string]api.WatchMap {
	return map[string]api.WatchMap{
		"zero":             {},
		"no place":         {Places: 0},
		"-1 places":        {Places: -1},
		"11 places":        {Places: 11},
		"lowest places":    mapWith(func(m *api.WatchMap) { m.Places = lowest }),
		"highest places":   mapWith(func(m *api.WatchMap) { m.Places = highest }),
		"21 ways":          {Places: 10, Ways: firstPairs(10, 21)},
		"from 2 to 2":      mapWith(func(m *api.WatchMap) { m.Ways[4].A, m.Ways[4].B = 2, 2 }),
		"from -1":          mapWith(func(m *api.WatchMap) { m.Ways[0].A = -1 }),
		"to -1":            mapWith(func(m *api.WatchMap) { m.Ways[0].B = -1 }),
		"from 6":           mapWith(func(m *api.WatchMap) { m.Ways[4].A = 6 }),
		"to 6":             mapWith(func(m *api.WatchMap) { m.Ways[4].B = 6 }),
		"to lowest":        mapWith(func(m *api.WatchMap) { m.Ways[2].B = lowest }),
		"from highest":     mapWith(func(m *api.WatchMap) { m.Ways[2].A = highest }),
		"one way twice":    mapWith(func(m *api.WatchMap) { m.Ways = append(m.Ways, api.WatchPair{A: 0, B: 3}) }),
		"a way and back":   mapWith(func(m *api.WatchMap) { m.Ways = append(m.Ways, api.WatchPair{A: 5, B: 2}) }),
		"gate 6":           mapWith(func(m *api.WatchMap) { m.Gates = 64 }),
		"gates below 0":    mapWith(func(m *api.WatchMap) { m.Gates = -1 }),
		"highest gates":    mapWith(func(m *api.WatchMap) { m.Gates = highest }),
		"lowest gates":     mapWith(func(m *api.WatchMap) { m.Gates = lowest }),
		"field 6":          mapWith(func(m *api.WatchMap) { m.Fields = 65 }),
		"fields below 0":   mapWith(func(m *api.WatchMap) { m.Fields = -8 }),
		"highest fields":   mapWith(func(m *api.WatchMap) { m.Fields = highest }),
		"place 1 of 1":     {Places: 1, Ways: pairs(0, 1)},
		"gate 1 of 1":      {Places: 1, Gates: 2},
		"field 10 of 10":   {Places: 10, Fields: 1024},
		"last way is none": {Places: 10, Ways: append(firstPairs(10, 19), api.WatchPair{})},
	}
}

func wrongVillages() map[string]api.WatchVillage {
	return map[string]api.WatchVillage{
		"zero":               {},
		"-1 neighbours":      {Neighbours: -1},
		"13 neighbours":      {Neighbours: 13},
		"lowest neighbours":  villageWith(func(v *api.WatchVillage) { v.Neighbours = lowest }),
		"highest neighbours": villageWith(func(v *api.WatchVillage) { v.Neighbours = highest }),
		"41 pairs":           {Neighbours: 12, Trust: firstPairs(12, 41)},
		"2 and 2":            villageWith(func(v *api.WatchVillage) { v.Trust[1].A = 2 }),
		"turned":             villageWith(func(v *api.WatchVillage) { v.Trust[3].A, v.Trust[3].B = 5, 4 }),
		"of -1":              villageWith(func(v *api.WatchVillage) { v.Trust[0].A = -1 }),
		"with 7":             villageWith(func(v *api.WatchVillage) { v.Trust[5].B = 7 }),
		"of lowest":          villageWith(func(v *api.WatchVillage) { v.Trust[5].A = lowest }),
		"with highest":       villageWith(func(v *api.WatchVillage) { v.Trust[5].B = highest }),
		"one pair twice":     villageWith(func(v *api.WatchVillage) { v.Trust[5] = v.Trust[0] }),
		"one alone":          {Neighbours: 1, Trust: pairs(0, 1)},
		"last pair is none":  {Neighbours: 12, Trust: append(firstPairs(12, 39), api.WatchPair{})},
	}
}

// wrongSets are none of the places of a map with 6 of them, nor of the neighbours of a village with 7 of them.
func wrongSets() []int { return []int{-1, 128, 129, lowest, highest, -8} }

func wrongNights() []int { return []int{-1, 13, lowest, highest} }

// want compares a result; a nil list and an empty one are the same.
func want[T any](t *testing.T, name string, got, wanted T, e, code api.Errno) {
	t.Helper()
	if e != code {
		t.Errorf("%s: error %d instead of %d", name, e, code)
	}
	if v := reflect.ValueOf(got); v.Kind() == reflect.Slice && v.Len() == 0 && reflect.ValueOf(wanted).Len() == 0 {
		return
	}
	if !reflect.DeepEqual(got, wanted) {
		t.Errorf("%s: %v instead of %v", name, got, wanted)
	}
}

// arguments are those of all functions.
type arguments struct {
	m      api.WatchMap
	v      api.WatchVillage
	set    int
	nights int
}

// right are arguments with which no function has an error.
func right() arguments { return arguments{valley(), village(), 4, 1} }

// wantErrors compares the errors of the functions that are named with a code, and their other results with nothing.
func wantErrors(t *testing.T, name string, code api.Errno, a arguments, which ...string) {
	t.Helper()
	for _, f := range which {
		at := name + ": " + f
		switch f {
		case "CheckMap":
			want(t, at, 0, 0, watch.CheckMap(a.m), code)
		case "CheckVillage":
			want(t, at, 0, 0, watch.CheckVillage(a.v), code)
		case "Thief":
			l, e := watch.Thief(a.m, a.set)
			want(t, at, l, nil, e, code)
		case "Posts":
			l, e := watch.Posts(a.m)
			want(t, at, l, nil, e, code)
		case "Paths":
			l, e := watch.Paths(a.m)
			want(t, at, l, nil, e, code)
		case "Pairs":
			l, e := watch.Pairs(a.v)
			want(t, at, l, nil, e, code)
		case "Odd":
			n, e := watch.Odd(a.v, a.set)
			want(t, at, n, 0, e, code)
		case "Proof":
			n, e := watch.Proof(a.v)
			want(t, at, n, 0, e, code)
		case "Nights":
			n, e := watch.Nights(a.m, a.v)
			want(t, at, n, 0, e, code)
		case "Round":
			l, e := watch.Round(a.m, a.v, a.nights)
			want(t, at, l, nil, e, code)
		case "Needed":
			l, e := watch.Needed(a.m, a.v, a.nights)
			want(t, at, l, nil, e, code)
		default:
			t.Fatalf("no function %s", f)
		}
	}
}

// P4.1
func TestCheck(t *testing.T) {
	for name, m := range map[string]api.WatchMap{
		"example":        valley(),
		"one place":      {Places: 1},
		"gate and field": {Places: 1, Gates: 1, Fields: 1},
		"10 places":      {Places: 10, Gates: 512, Fields: 1023},
		"full":           fullMap(),
		"turned":         {Places: 2, Ways: pairs(1, 0)},
	} {
		if e := watch.CheckMap(m); e != api.OK {
			t.Errorf("%s: %d", name, e)
		}
	}
	for name, m := range wrongMaps() {
		wantErrors(t, name, api.ErrWatchMap, arguments{m: m}, "CheckMap")
	}
	for name, v := range map[string]api.WatchVillage{
		"example":       village(),
		"one neighbour": {Neighbours: 1},
		"12 neighbours": {Neighbours: 12, Trust: pairs(0, 11, 10, 11)},
		"full":          fullVillage(),
	} {
		if e := watch.CheckVillage(v); e != api.OK {
			t.Errorf("%s: %d", name, e)
		}
	}
	for name, v := range wrongVillages() {
		wantErrors(t, name, api.ErrWatchVillage, arguments{v: v}, "CheckVillage")
	}
}

// P4.1, P4.5, R1, R2: the map comes before the village, both before a set or nights, and these before what there is none of.
func TestOrderOfErrors(t *testing.T) {
	if wantErrors(t, "right", api.OK, right(), "CheckMap", "CheckVillage"); t.Failed() {
		return
	}
	for name, m := range wrongMaps() {
		a := right()
		a.m = m
		wantErrors(t, name, api.ErrWatchMap, a, "Thief", "Posts", "Paths", "Nights", "Round", "Needed")
		a = arguments{m: m, set: -1, nights: -1}
		wantErrors(t, name, api.ErrWatchMap, a, "Thief", "Posts", "Paths", "Nights", "Round", "Needed")
	}
	for name, v := range wrongVillages() {
		a := right()
		a.v = v
		wantErrors(t, name, api.ErrWatchVillage, a, "Pairs", "Odd", "Proof", "Nights", "Round", "Needed")
		a.set, a.nights = -1, 13
		wantErrors(t, name, api.ErrWatchVillage, a, "Pairs", "Odd", "Proof", "Nights", "Round", "Needed")
	}
	for _, n := range wrongSets() {
		a := right()
		a.set = n
		wantErrors(t, "a wrong set", api.ErrWatchSet, a, "Thief", "Odd")
	}
	a := right()
	a.set = 64
	wantErrors(t, "the place 6", api.ErrWatchSet, a, "Thief")
	for _, n := range wrongNights() {
		a := right()
		a.nights = n
		wantErrors(t, "wrong nights", api.ErrRange, a, "Round", "Needed")
		a.v = api.WatchVillage{Neighbours: 1}
		wantErrors(t, "wrong nights of one neighbour", api.ErrRange, a, "Round", "Needed")
	}
	for nights := 2; nights <= 12; nights++ {
		a := right()
		a.nights = nights
		wantErrors(t, "too many nights", api.ErrNone, a, "Round", "Needed")
	}
	a = right()
	a.set = 12
	wantErrors(t, "a watch that guards", api.ErrNone, a, "Thief")
}

// P4.2
func TestThief(t *testing.T) {
	for name, x := range map[string]struct {
		m     api.WatchMap
		watch int
		want  []int
		e     api.Errno
	}{
		"example, 3":           {valley(), 8, []int{2, 5}, api.OK},
		"example, 2":           {valley(), 4, []int{0, 3, 4}, api.OK},
		"example, 2 and 3":     {valley(), 12, nil, api.ErrNone},
		"nobody":               {valley(), 0, []int{2, 5}, api.OK},
		"gates":                {valley(), 7, nil, api.ErrNone},
		"fields":               {valley(), 48, nil, api.ErrNone},
		"everywhere":           {valley(), 63, nil, api.ErrNone},
		"two gates":            {valley(), 5, []int{1, 3, 4}, api.OK},
		"through another gate": {valley(), 16, []int{2, 5}, api.OK},
		"around":               {api.WatchMap{Places: 5, Ways: ring(5), Gates: 1, Fields: 4}, 2, []int{0, 4, 3, 2}, api.OK},
		"one place":            {api.WatchMap{Places: 3, Ways: pairs(0, 1), Gates: 7, Fields: 6}, 0, []int{1}, api.OK},
		"another one":          {api.WatchMap{Places: 3, Ways: pairs(0, 1), Gates: 7, Fields: 6}, 2, []int{2}, api.OK},
		"first of two":         {api.WatchMap{Places: 4, Ways: pairs(3, 2, 2, 0, 1, 3, 1, 0), Gates: 8, Fields: 1}, 0, []int{3, 1, 0}, api.OK},
		"first gate, far on":   {api.WatchMap{Places: 6, Ways: pairs(0, 5, 1, 2, 2, 4, 3, 5), Gates: 3, Fields: 24}, 0, []int{0, 5, 3}, api.OK},
		"no gate":              {api.WatchMap{Places: 2, Ways: pairs(0, 1), Fields: 3}, 0, nil, api.ErrNone},
		"no field":             {api.WatchMap{Places: 2, Ways: pairs(0, 1), Gates: 3}, 0, nil, api.ErrNone},
		"no way":               {api.WatchMap{Places: 2, Gates: 1, Fields: 2}, 0, nil, api.ErrNone},
		"full":                 {fullMap(), 511, []int{9}, api.OK},
		"full, everywhere":     {fullMap(), 1023, nil, api.ErrNone},
	} {
		path, e := watch.Thief(x.m, x.watch)
		want(t, name, path, x.want, e, x.e)
	}
}

// P4.3
func TestPosts(t *testing.T) {
	for name, x := range map[string]struct {
		m    api.WatchMap
		want []int
	}{
		"example":         {valley(), []int{2, 3}},
		"no gate":         {mapWith(func(m *api.WatchMap) { m.Gates = 0 }), nil},
		"no field":        {mapWith(func(m *api.WatchMap) { m.Fields = 0 }), nil},
		"no way":          {mapWith(func(m *api.WatchMap) { m.Ways = nil }), nil},
		"no way, 4 both":  {mapWith(func(m *api.WatchMap) { m.Ways, m.Gates = nil, 31 }), []int{4}},
		"one gate":        {mapWith(func(m *api.WatchMap) { m.Gates = 4 }), []int{2}},
		"first of many":   {api.WatchMap{Places: 4, Ways: pairs(3, 2, 2, 1, 1, 0), Gates: 8, Fields: 1}, []int{0}},
		"first of three":  {api.WatchMap{Places: 4, Ways: ring(4), Gates: 1, Fields: 4}, []int{0}},
		"both ways round": {api.WatchMap{Places: 6, Ways: ring(6), Gates: 9, Fields: 18}, []int{0, 3}},
		"full":            {fullMap(), []int{0, 1, 2, 3, 4, 5, 6, 7, 8, 9}},
	} {
		posts, e := watch.Posts(x.m)
		want(t, name, posts, x.want, e, api.OK)
		wantPaths(t, name, x.m, len(x.want))
	}
}

// wantPaths compares the number of paths that have no place in common, and says what is wrong with them.
func wantPaths(t *testing.T, name string, m api.WatchMap, many int) {
	t.Helper()
	l, e := watch.Paths(m)
	if e != api.OK || len(l) != many {
		t.Errorf("%s: Paths(%v): %v, %d instead of %d paths", name, m, l, e, many)
	}
	seen := map[int]bool{}
	for _, path := range l {
		if !isPath(m, path) {
			t.Errorf("%s: Paths(%v): %v is no path", name, m, path)
		}
		for _, place := range path {
			if seen[place] {
				t.Errorf("%s: Paths(%v): %v, the place %d twice", name, m, l, place)
			}
			seen[place] = true
		}
	}
}

// P4.4
func TestPairs(t *testing.T) {
	for name, x := range map[string]struct {
		v    api.WatchVillage
		many int
	}{
		"example":     {village(), 2},
		"no trust":    {api.WatchVillage{Neighbours: 12}, 0},
		"one":         {api.WatchVillage{Neighbours: 1}, 0},
		"a star":      {api.WatchVillage{Neighbours: 5, Trust: pairs(0, 4, 1, 4, 2, 4, 3, 4)}, 1},
		"a chain":     {api.WatchVillage{Neighbours: 6, Trust: pairs(1, 2, 0, 1, 2, 3, 4, 5, 3, 4)}, 3},
		"a ring of 5": {api.WatchVillage{Neighbours: 5, Trust: ring(5)}, 2},
		"two rings":   {api.WatchVillage{Neighbours: 6, Trust: pairs(0, 1, 1, 2, 0, 2, 2, 3, 3, 4, 4, 5, 3, 5)}, 3},
		"full":        {fullVillage(), 5},
		"a full ring": {api.WatchVillage{Neighbours: 12, Trust: ring(12)}, 6},
	} {
		wantPairs(t, name, x.v, x.many)
	}
}

// wantPairs compares the number of the pairs, and of the proof, and says what is wrong with them.
func wantPairs(t *testing.T, name string, v api.WatchVillage, many int) {
	t.Helper()
	l, e := watch.Pairs(v)
	if e != api.OK || len(l) != many || !arePairs(v, l) {
		t.Errorf("%s: Pairs(%v): %v, %d instead of %d pairs", name, v, l, e, many)
	}
	for i := range l {
		if i > 0 && l[i-1].A >= l[i].A {
			t.Errorf("%s: Pairs(%v): %v does not increase", name, v, l)
		}
	}
	proof, e := watch.Proof(v)
	if e != api.OK || proof < 0 || proof >= 1<<v.Neighbours || number(v, proof) != many {
		t.Errorf("%s: Proof(%v): %d, %d instead of a set with the number %d", name, v, proof, e, many)
	}
}

// P4.4
func TestOdd(t *testing.T) {
	for name, x := range map[string]struct {
		v       api.WatchVillage
		without int
		want    int
	}{
		"example, without 0":   {village(), 1, 4},
		"example, whole":       {village(), 0, 1},
		"example, without 4":   {village(), 16, 0},
		"example, 1, 2 and 3":  {village(), 14, 2},
		"example, without all": {village(), 127, 0},
		"example, but for 6":   {village(), 63, 1},
		"no trust":             {api.WatchVillage{Neighbours: 12}, 0, 12},
		"no trust, without 11": {api.WatchVillage{Neighbours: 12}, 2048, 11},
		"one":                  {api.WatchVillage{Neighbours: 1}, 0, 1},
		"one, without it":      {api.WatchVillage{Neighbours: 1}, 1, 0},
		"a chain":              {api.WatchVillage{Neighbours: 5, Trust: pairs(3, 4, 2, 3, 1, 2, 0, 1)}, 0, 1},
		"a chain cut":          {api.WatchVillage{Neighbours: 5, Trust: pairs(3, 4, 2, 3, 1, 2, 0, 1)}, 2, 2},
		"a chain cut in two":   {api.WatchVillage{Neighbours: 5, Trust: pairs(3, 4, 2, 3, 1, 2, 0, 1)}, 4, 0},
		"full":                 {fullVillage(), 0, 2},
	} {
		n, e := watch.Odd(x.v, x.without)
		want(t, name, n, x.want, e, api.OK)
	}
}

// P4.5
func TestRounds(t *testing.T) {
	two := api.WatchVillage{Neighbours: 4, Trust: pairs(0, 1, 2, 3)}
	chain := api.WatchVillage{Neighbours: 5, Trust: pairs(0, 1, 1, 2, 2, 3, 3, 4)}
	free := api.WatchMap{Places: 1, Gates: 1}
	one := api.WatchMap{Places: 2, Ways: pairs(0, 1), Gates: 1, Fields: 2}
	for name, x := range map[string]struct {
		m      api.WatchMap
		v      api.WatchVillage
		most   int
		nights int
		needed []int
	}{
		"example":          {valley(), village(), 1, 1, []int{0}},
		"no night":         {valley(), village(), 1, 0, nil},
		"no post":          {free, village(), 12, 12, nil},
		"nobody needed":    {free, api.WatchVillage{Neighbours: 1}, 12, 1, nil},
		"two pairs":        {valley(), two, 1, 1, []int{0, 1, 2, 3}},
		"two nights":       {one, two, 2, 2, []int{0, 1, 2, 3}},
		"one of two":       {one, two, 2, 1, nil},
		"every second one": {one, chain, 2, 2, []int{1, 3}},
		"no trust":         {one, api.WatchVillage{Neighbours: 12}, 0, 0, nil},
		"six nights":       {one, api.WatchVillage{Neighbours: 12, Trust: ring(12)}, 6, 6, []int{0, 1, 2, 3, 4, 5, 6, 7, 8, 9, 10, 11}},
		"two of three":     {valley(), api.WatchVillage{Neighbours: 6, Trust: pairs(0, 1, 2, 3, 4, 5)}, 1, 1, nil},
		"full map":         {fullMap(), fullVillage(), 0, 0, nil},
	} {
		wantRounds(t, name, x.m, x.v, x.most)
		needed, e := watch.Needed(x.m, x.v, x.nights)
		want(t, name+": Needed", needed, x.needed, e, api.OK)
	}
}

// wantRounds compares the greatest number of nights, and says what is wrong with the rounds of all numbers of nights.
func wantRounds(t *testing.T, name string, m api.WatchMap, v api.WatchVillage, most int) {
	t.Helper()
	n, e := watch.Nights(m, v)
	want(t, name+": Nights", n, most, e, api.OK)
	for nights := range 13 {
		round, e := watch.Round(m, v, nights)
		switch {
		case nights > most && (e != api.ErrNone || round != nil):
			t.Errorf("%s: Round(%v, %v, %d): %v, %d", name, m, v, nights, round, e)
		case nights <= most && (e != api.OK || len(round) != nights || !isRound(m, v, round)):
			t.Errorf("%s: Round(%v, %v, %d): %v, %d", name, m, v, nights, round, e)
		}
	}
}

// P4.6, P2: arguments stay as they are, and a result that is changed changes no other one.
func TestMemory(t *testing.T) {
	m, v := valley(), village()
	spoil := map[string]func() any{
		"Thief": func() any {
			l, _ := watch.Thief(m, 4)
			kept := slices.Clone(l)
			clear(l)
			return kept
		},
		"Posts": func() any {
			l, _ := watch.Posts(m)
			kept := slices.Clone(l)
			clear(l)
			return kept
		},
		"Paths": func() any {
			l, _ := watch.Paths(m)
			kept := [][]int{slices.Clone(l[0]), slices.Clone(l[1])}
			l[0] = append(l[0], 7)
			clear(l[0])
			if !slices.Equal(l[1], kept[1]) {
				t.Errorf("Paths: one list changes another one")
			}
			clear(l[1])
			return kept
		},
		"Pairs": func() any {
			l, _ := watch.Pairs(v)
			kept := slices.Clone(l)
			clear(l)
			return kept
		},
		"Round": func() any {
			l, _ := watch.Round(m, v, 1)
			kept := slices.Clone(l[0])
			clear(l[0])
			return kept
		},
		"Needed": func() any {
			l, _ := watch.Needed(m, v, 1)
			kept := slices.Clone(l)
			clear(l)
			return kept
		},
	}
	for name, call := range spoil {
		first := call()
		if again := call(); !reflect.DeepEqual(first, again) {
			t.Errorf("%s: %v, and then %v", name, first, again)
		}
	}
	one := api.WatchMap{Places: 1, Gates: 1, Fields: 1}
	pair := api.WatchVillage{Neighbours: 4, Trust: pairs(0, 1, 2, 3)}
	l, _ := watch.Round(one, pair, 2)
	kept := slices.Clone(l[1])
	l[0] = append(l[0], api.WatchDuty{Place: 7})
	clear(l[0])
	if !slices.Equal(l[1], kept) {
		t.Errorf("Round: one night changes another one")
	}
	watch.Odd(v, 1)
	watch.Proof(v)
	watch.Nights(m, v)
	if !reflect.DeepEqual(m, valley()) || !reflect.DeepEqual(v, village()) {
		t.Errorf("arguments changed: %v, %v", m, v)
	}
}

// P4.6: nothing of an argument is kept, so that it can be changed after the call.
func TestNothingIsRetained(t *testing.T) {
	m, v := valley(), village()
	path, _ := watch.Thief(m, 4)
	posts, _ := watch.Posts(m)
	couples, _ := watch.Pairs(v)
	round, _ := watch.Round(m, v, 1)
	kept := []any{slices.Clone(path), slices.Clone(posts), slices.Clone(couples), slices.Clone(round[0])}
	clear(m.Ways)
	clear(v.Trust)
	if now := []any{path, posts, couples, round[0]}; !reflect.DeepEqual(now, kept) {
		t.Errorf("results changed from %v to %v", kept, now)
	}
	m.Ways = valley().Ways
	m.Ways[4] = api.WatchPair{A: 0, B: 1}
	posts, e := watch.Posts(m)
	want(t, "after a change", posts, []int{3}, e, api.OK)
}

// P1: no function panics, whatever the arguments are, and those that are wrong have their errors.
func TestAnyArguments(t *testing.T) {
	r := rand.New(rand.NewPCG(4, 40))
	n := func() int { return []int{lowest, -1, 0, 1, 2, 3, 5, 7, 10, 12, 13, 64, highest}[r.IntN(13)] }
	for range 5000 {
		a := arguments{valley(), village(), n(), n()}
		for range r.IntN(3) {
			a.m.Ways[r.IntN(5)] = api.WatchPair{A: n(), B: n()}
			a.v.Trust[r.IntN(6)] = api.WatchPair{A: n(), B: n()}
		}
		switch r.IntN(5) {
		case 0:
			a.m.Places = n()
		case 1:
			a.m.Gates = n()
		case 2:
			a.m.Fields = n()
		case 3:
			a.v.Neighbours = n()
		}
		badMap, badVillage := watch.CheckMap(a.m), watch.CheckVillage(a.v)
		if badMap != api.OK {
			wantErrors(t, "any", api.ErrWatchMap, a, "Thief", "Posts", "Paths", "Nights", "Round", "Needed")
		} else if badVillage != api.OK {
			wantErrors(t, "any", api.ErrWatchVillage, a, "Nights", "Round", "Needed")
		} else {
			watch.Nights(a.m, a.v)
			watch.Round(a.m, a.v, a.nights)
			watch.Needed(a.m, a.v, a.nights)
		}
		watch.Thief(a.m, a.set)
		watch.Posts(a.m)
		watch.Paths(a.m)
		watch.Pairs(a.v)
		watch.Odd(a.v, a.set)
		watch.Proof(a.v)
	}
}
