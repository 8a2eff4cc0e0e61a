package hands_test

import (
	"math/rand/v2"
	"reflect"
	"slices"
	"testing"

	"rostellum/api"
	"rostellum/hands"
)

func span(low, high int) api.Span { return api.Span{Low: low, High: high} }

// season is that of the document's examples.
func season() api.HandsSeason {
	return api.HandsSeason{
		Vines: []api.HandsVine{{From: 0, To: 2, Bears: 10}, {From: 1, To: 3, Bears: 6}},
		Hands: []api.HandsHand{{Vines: 3, From: 0, To: 3, Rate: 3, Day: 8}, {Vines: 2, From: 2, To: 2, Rate: 4, Day: 10}},
		Flowers: [][]api.Span{
			{span(4, 6), span(5, 5)},
			{span(5, 8), span(3, 4)},
		},
	}
}

// least is the least truth of the season.
func least() [][]int { return [][]int{{4, 5}, {5, 3}} }

// job is one of the morning, the hour, the hand, the vine, and how many.
func job(morning, hour, hand, vine, many int) api.HandsJob {
	return api.HandsJob{Morning: morning, Hour: hour, Hand: hand, Vine: vine, Many: many}
}

// two is the plan of two jobs of the examples.
func two() []api.HandsJob { return []api.HandsJob{job(0, 0, 0, 0, 3), job(0, 1, 0, 0, 2)} }

// with is the season of the examples, changed.
func with(change func(s *api.HandsSeason)) api.HandsSeason {
	s := season()
	change(&s)
	return s
}

// full is a season at its limits.
func full() api.HandsSeason {
	var s api.HandsSeason
	for range 6 {
		s.Vines = append(s.Vines, api.HandsVine{From: 0, To: 11, Bears: 1000})
		s.Flowers = append(s.Flowers, slices.Repeat([]api.Span{span(0, 1000)}, 6))
	}
	for range 4 {
		s.Hands = append(s.Hands, api.HandsHand{Vines: 63, From: 0, To: 11, Rate: 100, Day: 1000})
	}
	return s
}

// small is a season with one vine, one morning and no hand, at the lowest limits.
func small() api.HandsSeason {
	return api.HandsSeason{Vines: make([]api.HandsVine, 1), Flowers: [][]api.Span{make([]api.Span, 1)}}
}

const lowest, highest = -1 << 63, 1<<63 - 1

func wrongSeasons() map[string]api.HandsSeason {
	return map[string]api.HandsSeason{
		"zero":               {},
		"no vine":            {Flowers: [][]api.Span{{}}},
		"7 vines":            {Vines: make([]api.HandsVine, 7), Flowers: [][]api.Span{make([]api.Span, 7)}},
		"5 hands":            with(func(s *api.HandsSeason) { s.Hands = make([]api.HandsHand, 5) }),
		"no morning":         with(func(s *api.HandsSeason) { s.Flowers = nil }),
		"7 mornings":         with(func(s *api.HandsSeason) { s.Flowers = slices.Repeat(s.Flowers[:1], 7) }),
		"a morning short":    with(func(s *api.HandsSeason) { s.Flowers[1] = s.Flowers[1][:1] }),
		"a morning empty":    with(func(s *api.HandsSeason) { s.Flowers[0] = nil }),
		"a morning long":     with(func(s *api.HandsSeason) { s.Flowers[0] = make([]api.Span, 3) }),
		"vine from -1":       with(func(s *api.HandsSeason) { s.Vines[0].From = -1 }),
		"vine to 12":         with(func(s *api.HandsSeason) { s.Vines[1].To = 12 }),
		"vine turned":        with(func(s *api.HandsSeason) { s.Vines[1].From, s.Vines[1].To = 3, 2 }),
		"bears -1":           with(func(s *api.HandsSeason) { s.Vines[0].Bears = -1 }),
		"bears 1001":         with(func(s *api.HandsSeason) { s.Vines[1].Bears = 1001 }),
		"set of no vines":    with(func(s *api.HandsSeason) { s.Hands[1].Vines = 4 }),
		"set below 0":        with(func(s *api.HandsSeason) { s.Hands[0].Vines = -1 }),
		"hand from -1":       with(func(s *api.HandsSeason) { s.Hands[0].From = -1 }),
		"hand to 12":         with(func(s *api.HandsSeason) { s.Hands[1].To = 12 }),
		"hand turned":        with(func(s *api.HandsSeason) { s.Hands[1].From = 3 }),
		"rate -1":            with(func(s *api.HandsSeason) { s.Hands[0].Rate = -1 }),
		"rate 101":           with(func(s *api.HandsSeason) { s.Hands[1].Rate = 101 }),
		"day -1":             with(func(s *api.HandsSeason) { s.Hands[0].Day = -1 }),
		"day 1001":           with(func(s *api.HandsSeason) { s.Hands[1].Day = 1001 }),
		"flowers -1":         with(func(s *api.HandsSeason) { s.Flowers[0][0] = span(-1, 3) }),
		"flowers 1001":       with(func(s *api.HandsSeason) { s.Flowers[1][1] = span(4, 1001) }),
		"flowers turned":     with(func(s *api.HandsSeason) { s.Flowers[1][0] = span(4, 3) }),
		"lowest and highest": with(func(s *api.HandsSeason) { s.Flowers[0][1] = span(lowest, highest) }),
		"lowest set":         with(func(s *api.HandsSeason) { s.Hands[0].Vines = lowest }),
		"hours turned":       with(func(s *api.HandsSeason) { s.Vines[0].From, s.Vines[0].To = highest, lowest }),
	}
}

func wrongTruths() map[string][][]int {
	return map[string][][]int{
		"none":            nil,
		"short":           {{4, 5}},
		"long":            {{4, 5}, {5, 3}, {5, 3}},
		"a morning short": {{4, 5}, {5}},
		"a morning empty": {nil, {5, 3}},
		"a morning long":  {{4, 5, 0}, {5, 3}},
		"too few":         {{3, 5}, {5, 3}},
		"too many":        {{4, 5}, {5, 5}},
		"turned":          {{5, 3}, {4, 5}},
		"lowest":          {{4, lowest}, {5, 3}},
		"highest":         {{4, 5}, {highest, 3}},
	}
}

func wrongPlans() map[string][]api.HandsJob {
	return map[string][]api.HandsJob{
		"zero":              {{}},
		"none":              {job(0, 0, 0, 0, 0)},
		"fewer than none":   {job(0, 0, 0, 0, -1)},
		"morning -1":        {job(-1, 0, 0, 0, 1)},
		"morning 2":         {job(2, 0, 0, 0, 1)},
		"hour -1":           {job(0, -1, 0, 0, 1)},
		"hour 12":           {job(0, 12, 0, 0, 1)},
		"hand -1":           {job(0, 0, -1, 0, 1)},
		"hand 2":            {job(0, 0, 2, 0, 1)},
		"vine -1":           {job(0, 0, 0, -1, 1)},
		"vine 2":            {job(0, 1, 0, 2, 1)},
		"vine 64":           {job(0, 1, 0, 64, 1)},
		"vine not open yet": {job(0, 0, 0, 1, 1)},
		"vine closed":       {job(0, 3, 0, 0, 1)},
		"not its vine":      {job(0, 2, 1, 0, 1)},
		"hand not there":    {job(0, 1, 1, 1, 1)},
		"hand gone":         {job(0, 3, 1, 1, 1)},
		"more than rate":    {job(0, 0, 0, 0, 4)},
		"rate of two vines": {job(0, 1, 0, 0, 2), job(0, 1, 0, 1, 2)},
		"more than day":     {job(0, 0, 0, 0, 3), job(0, 1, 0, 0, 3), job(0, 2, 0, 0, 1), job(0, 2, 0, 1, 2)},
		"one twice":         {job(0, 0, 0, 0, 1), job(0, 0, 0, 0, 2)},
		"mornings turned":   {job(1, 0, 0, 0, 1), job(0, 1, 0, 0, 1)},
		"hours turned":      {job(0, 2, 0, 0, 1), job(0, 1, 0, 0, 1)},
		"hands turned":      {job(0, 2, 1, 1, 1), job(0, 2, 0, 0, 1)},
		"vines turned":      {job(0, 1, 0, 1, 1), job(0, 1, 0, 0, 1)},
		"highest":           {job(0, 0, 0, 0, highest)},
		"lowest":            {job(0, 0, 0, 0, lowest)},
		"sum wraps":         {job(0, 1, 0, 0, 1), job(0, 1, 0, 1, highest)},
		"2049 jobs":         make([]api.HandsJob, 2049),
		"last is wrong":     append(two(), job(1, 2, 1, 1, 5)),
	}
}

func wrongBounds() map[string]api.HandsBound {
	return map[string]api.HandsBound{
		"zero":             {},
		"mornings short":   {Mornings: []int{0}},
		"mornings long":    {Mornings: []int{0, 0, 0}},
		"vines not there":  {Vines: 4, Mornings: []int{0, 0}},
		"vines below 0":    {Vines: -1, Mornings: []int{0, 0}},
		"set not there":    {Mornings: []int{0, 4}},
		"set below 0":      {Mornings: []int{-1, 0}},
		"in both":          {Vines: 1, Mornings: []int{2, 3}},
		"lowest":           {Vines: lowest, Mornings: []int{0, 0}},
		"set is the least": {Mornings: []int{0, lowest}},
	}
}

// want compares a result; a nil list and an empty one are the same.
func want[T any](t *testing.T, name string, got, wanted T, e, code api.Errno) {
	t.Helper()
	if e != code {
		t.Errorf("%s: error %d instead of %d", name, e, code)
	}
	if v := reflect.ValueOf(got); v.Kind() == reflect.Slice && v.Len() == 0 && reflect.ValueOf(wanted).Len() == 0 {
		return
	}
	if !reflect.DeepEqual(got, wanted) {
		t.Errorf("%s: %v instead of %v", name, got, wanted)
	}
}

// P2.1
func TestCheck(t *testing.T) {
	for name, s := range map[string]api.HandsSeason{
		"example":      season(),
		"full":         full(),
		"small":        small(),
		"no hand":      with(func(s *api.HandsSeason) { s.Hands = nil }),
		"idle hand":    with(func(s *api.HandsSeason) { s.Hands[1] = api.HandsHand{} }),
		"one hour":     with(func(s *api.HandsSeason) { s.Vines[0] = api.HandsVine{From: 11, To: 11} }),
		"no hand here": with(func(s *api.HandsSeason) { s.Hands = []api.HandsHand{} }),
	} {
		if e := hands.Check(s); e != api.OK {
			t.Errorf("%s: %d", name, e)
		}
	}
	for name, s := range wrongSeasons() {
		if e := hands.Check(s); e != api.ErrHands {
			t.Errorf("%s: %d", name, e)
		}
	}
}

// wantErrors compares the errors of the functions that are named with a code, and their other results with nothing.
func wantErrors(t *testing.T, name string, code api.Errno, s api.HandsSeason, truth [][]int, plan []api.HandsJob, b api.HandsBound, which ...string) {
	t.Helper()
	for _, f := range which {
		switch f {
		case "Hours":
			l, e := hands.Hours(s)
			want(t, name+": "+f, l, nil, e, code)
		case "Most":
			m, e := hands.Most(s)
			want(t, name+": "+f, m, api.Span{}, e, code)
		case "Plan":
			l, e := hands.Plan(s, truth)
			want(t, name+": "+f, l, nil, e, code)
		case "Bound":
			b, e := hands.Bound(s, truth)
			want(t, name+": "+f, b, api.HandsBound{}, e, code)
		case "Fits":
			ok, e := hands.Fits(s, truth, plan)
			want(t, name+": "+f, ok, false, e, code)
		case "Number":
			n, e := hands.Number(s, truth, b)
			want(t, name+": "+f, n, 0, e, code)
		case "Play":
			pods, lost, e := hands.Play(s, truth, plan)
			want(t, name+": "+f, pods, nil, e, code)
			want(t, name+": "+f, lost, 0, e, code)
		}
	}
}

// P2.1, R1, R2: the season comes before the truth, this before the plan or the bound.
func TestOrderOfErrors(t *testing.T) {
	none := api.HandsBound{}
	for name, s := range wrongSeasons() {
		wantErrors(t, name, api.ErrHands, s, nil, make([]api.HandsJob, 1), none, "Hours", "Most", "Plan", "Bound", "Fits", "Number", "Play")
		wantErrors(t, name, api.ErrHands, s, least(), two(), api.HandsBound{Mornings: []int{0, 0}}, "Plan", "Bound", "Fits", "Number", "Play")
	}
	for name, truth := range wrongTruths() {
		wantErrors(t, name, api.ErrHandsTruth, season(), truth, make([]api.HandsJob, 1), none, "Plan", "Bound", "Fits", "Number", "Play")
		wantErrors(t, name, api.ErrHandsTruth, season(), truth, two(), api.HandsBound{Mornings: []int{0, 0}}, "Fits", "Number", "Play")
	}
	for name, plan := range wrongPlans() {
		wantErrors(t, name, api.ErrHandsPlan, season(), least(), plan, none, "Fits", "Play")
	}
	for name, b := range wrongBounds() {
		wantErrors(t, name, api.ErrHandsBound, season(), least(), nil, b, "Number")
	}
}

// P2.2
func TestHours(t *testing.T) {
	one := func(h api.HandsHand) api.HandsSeason {
		return with(func(s *api.HandsSeason) { s.Hands = []api.HandsHand{h} })
	}
	for name, x := range map[string]struct {
		s    api.HandsSeason
		want [][]int
	}{
		"example":     {season(), [][]int{{3, 3}, {0, 1}}},
		"no hand":     {with(func(s *api.HandsSeason) { s.Hands = nil }), nil},
		"no vine":     {one(api.HandsHand{To: 11}), [][]int{{0, 0}}},
		"too late":    {one(api.HandsHand{Vines: 3, From: 4, To: 11}), [][]int{{0, 0}}},
		"last hour":   {one(api.HandsHand{Vines: 3, From: 3, To: 11}), [][]int{{0, 1}}},
		"first hour":  {one(api.HandsHand{Vines: 3, From: 0, To: 0}), [][]int{{1, 0}}},
		"middle":      {one(api.HandsHand{Vines: 3, From: 1, To: 2}), [][]int{{2, 2}}},
		"other vine":  {one(api.HandsHand{Vines: 1, From: 0, To: 11}), [][]int{{3, 0}}},
		"rate is nil": {one(api.HandsHand{Vines: 2, From: 0, To: 11, Rate: 0, Day: 0}), [][]int{{0, 3}}},
		"full":        {full(), slices.Repeat([][]int{{12, 12, 12, 12, 12, 12}}, 4)},
	} {
		l, e := hands.Hours(x.s)
		want(t, name, l, x.want, e, api.OK)
	}
}

// P2.3
func TestFits(t *testing.T) {
	for name, x := range map[string]struct {
		plan []api.HandsJob
		want bool
	}{
		"none":              {nil, true},
		"empty":             {[]api.HandsJob{}, true},
		"first":             {two()[:1], true},
		"both":              {two(), false},
		"just enough":       {[]api.HandsJob{job(0, 0, 0, 0, 3), job(0, 1, 0, 0, 1)}, true},
		"another morning":   {[]api.HandsJob{job(0, 0, 0, 0, 3), job(0, 1, 0, 0, 1), job(1, 0, 0, 0, 3), job(1, 1, 0, 0, 2)}, true},
		"two vines":         {[]api.HandsJob{job(0, 1, 0, 0, 1), job(0, 1, 0, 1, 2), job(0, 2, 1, 1, 3)}, true},
		"all of day":        {[]api.HandsJob{job(0, 0, 0, 0, 3), job(0, 1, 0, 0, 1), job(0, 1, 0, 1, 2), job(0, 2, 0, 1, 2), job(0, 2, 1, 1, 1)}, true},
		"all that it bears": {[]api.HandsJob{job(0, 2, 1, 1, 4), job(0, 3, 0, 1, 1), job(1, 2, 1, 1, 1)}, true},
		"more than bears":   {[]api.HandsJob{job(0, 2, 1, 1, 4), job(0, 3, 0, 1, 1), job(1, 2, 1, 1, 2)}, false},
		"more on 2nd":       {[]api.HandsJob{job(1, 2, 1, 1, 4)}, false},
	} {
		ok, e := hands.Fits(season(), least(), x.plan)
		want(t, name, ok, x.want, e, api.OK)
	}
	ok, e := hands.Fits(season(), [][]int{{5, 5}, {5, 3}}, two())
	want(t, "both, with a flower more", ok, true, e, api.OK)
}

// P2.3
func TestNumber(t *testing.T) {
	for name, x := range map[string]struct {
		b    api.HandsBound
		want int
	}{
		"hands alone":      {api.HandsBound{Mornings: []int{0, 0}}, 24},
		"of the examples":  {api.HandsBound{Vines: 1, Mornings: []int{0, 2}}, 25},
		"least":            {api.HandsBound{Vines: 2, Mornings: []int{1, 1}}, 15},
		"all bear":         {api.HandsBound{Vines: 3, Mornings: []int{0, 0}}, 16},
		"all flowers":      {api.HandsBound{Mornings: []int{3, 3}}, 17},
		"vine 0, a flower": {api.HandsBound{Vines: 1, Mornings: []int{2, 0}}, 27},
		"vine 1":           {api.HandsBound{Vines: 2, Mornings: []int{0, 0}}, 22},
		"a morning":        {api.HandsBound{Mornings: []int{0, 2}}, 23},
	} {
		n, e := hands.Number(season(), least(), x.b)
		want(t, name, n, x.want, e, api.OK)
	}
	n, e := hands.Number(small(), [][]int{{0}}, api.HandsBound{Mornings: []int{0}})
	want(t, "no hand", n, 0, e, api.OK)
}

// P2.3
func TestPlanAndBound(t *testing.T) {
	for name, x := range map[string]struct {
		s     api.HandsSeason
		truth [][]int
		want  int
	}{
		"least":     {season(), least(), 15},
		"most":      {season(), [][]int{{6, 5}, {8, 4}}, 16},
		"no hand":   {with(func(s *api.HandsSeason) { s.Hands = nil }), least(), 0},
		"small":     {small(), [][]int{{0}}, 0},
		"one hand":  {with(func(s *api.HandsSeason) { s.Hands = s.Hands[1:] }), least(), 6},
		"slow":      {with(func(s *api.HandsSeason) { s.Hands = s.Hands[:1]; s.Hands[0].Rate = 1 }), least(), 8},
		"soon done": {with(func(s *api.HandsSeason) { s.Hands = s.Hands[:1]; s.Hands[0].Day = 1 }), least(), 2},
		"barren":    {with(func(s *api.HandsSeason) { s.Vines[0].Bears = 0 }), least(), 6},
		"full":      {full(), slices.Repeat([][]int{{1000, 1000, 1000, 1000, 1000, 1000}}, 6), 6000},
	} {
		wantMost(t, name, x.s, x.truth, x.want)
	}
}

// wantMost compares the worth of the plan, and the number of the bound, with the most of a truth.
func wantMost(t *testing.T, name string, s api.HandsSeason, truth [][]int, most int) {
	t.Helper()
	plan, e := hands.Plan(s, truth)
	want(t, name+": Plan", worth(plan), most, e, api.OK)
	ok, e := hands.Fits(s, truth, plan)
	want(t, name+": Fits", ok, true, e, api.OK)
	b, e := hands.Bound(s, truth)
	if e != api.OK {
		t.Errorf("%s: Bound: %d", name, e)
	}
	n, e := hands.Number(s, truth, b)
	want(t, name+": Number", n, most, e, api.OK)
}

func worth(plan []api.HandsJob) int {
	n := 0
	for _, j := range plan {
		n += j.Many
	}
	return n
}

// P2.4
func TestMost(t *testing.T) {
	for name, x := range map[string]struct {
		s    api.HandsSeason
		want api.Span
	}{
		"example":    {season(), span(15, 16)},
		"bears 30":   {with(func(s *api.HandsSeason) { s.Vines[0].Bears, s.Vines[1].Bears = 30, 30 }), span(17, 23)},
		"no hand":    {with(func(s *api.HandsSeason) { s.Hands = nil }), span(0, 0)},
		"small":      {small(), span(0, 0)},
		"full":       {full(), span(0, 6000)},
		"one of two": {with(func(s *api.HandsSeason) { s.Hands = s.Hands[1:]; s.Flowers = s.Flowers[1:] }), span(3, 4)},
	} {
		m, e := hands.Most(x.s)
		want(t, name, m, x.want, e, api.OK)
	}
}

// P2.5
func TestPlay(t *testing.T) {
	more := [][]int{{6, 5}, {8, 4}}
	for name, x := range map[string]struct {
		truth [][]int
		plan  []api.HandsJob
		pods  []int
		lost  int
	}{
		"nothing":       {least(), nil, []int{0, 0}, 17},
		"example":       {least(), two(), []int{4, 0}, 13},
		"wholly":        {more, two(), []int{5, 0}, 18},
		"two mornings":  {least(), append(two(), job(1, 0, 0, 0, 3), job(1, 1, 0, 0, 3)), []int{9, 0}, 8},
		"as it bears":   {more, append(two(), job(1, 0, 0, 0, 3), job(1, 1, 0, 0, 3)), []int{10, 0}, 13},
		"two hands":     {least(), []api.HandsJob{job(0, 1, 0, 1, 3), job(0, 2, 0, 1, 1), job(0, 2, 1, 1, 4)}, []int{0, 5}, 12},
		"nothing left":  {least(), []api.HandsJob{job(0, 1, 0, 1, 3), job(0, 2, 1, 1, 4), job(0, 3, 0, 1, 2), job(1, 2, 1, 1, 4)}, []int{0, 6}, 11},
		"other morning": {least(), []api.HandsJob{job(0, 2, 1, 1, 4), job(1, 2, 1, 1, 4)}, []int{0, 6}, 11},
	} {
		pods, lost, e := hands.Play(season(), x.truth, x.plan)
		want(t, name, pods, x.pods, e, api.OK)
		want(t, name, lost, x.lost, e, api.OK)
	}
	pods, lost, e := hands.Play(small(), [][]int{{0}}, nil)
	want(t, "small", pods, []int{0}, e, api.OK)
	want(t, "small", lost, 0, e, api.OK)
}

// P2.6, P2: arguments stay as they are, and a result that is changed changes no other one.
func TestMemory(t *testing.T) {
	s, truth, plan, b := season(), least(), two(), api.HandsBound{Vines: 2, Mornings: []int{1, 1}}
	spoil := map[string]func() any{
		"Hours": func() any {
			l, _ := hands.Hours(s)
			kept := [][]int{slices.Clone(l[0]), slices.Clone(l[1])}
			l[0] = append(l[0], 5)
			l[0][0], l[1][1] = -7, -7
			return kept
		},
		"Plan": func() any {
			l, _ := hands.Plan(s, truth)
			kept := slices.Clone(l)
			clear(l)
			return kept
		},
		"Bound": func() any {
			b, _ := hands.Bound(s, truth)
			kept := api.HandsBound{Vines: b.Vines, Mornings: slices.Clone(b.Mornings)}
			clear(b.Mornings)
			return kept
		},
		"Play": func() any {
			pods, _, _ := hands.Play(s, truth, plan)
			kept := slices.Clone(pods)
			clear(pods)
			return kept
		},
	}
	for name, call := range spoil {
		first := call()
		if again := call(); !reflect.DeepEqual(first, again) {
			t.Errorf("%s: %v, and then %v", name, first, again)
		}
	}
	hands.Fits(s, truth, plan)
	hands.Number(s, truth, b)
	hands.Most(s)
	if !reflect.DeepEqual(s, season()) || !reflect.DeepEqual(truth, least()) || !slices.Equal(plan, two()) || b.Vines != 2 || !slices.Equal(b.Mornings, []int{1, 1}) {
		t.Errorf("arguments changed: %v, %v, %v, %v", s, truth, plan, b)
	}
}

// P1: no function panics, whatever the arguments are.
func TestAnyArguments(t *testing.T) {
	r := rand.New(rand.NewPCG(2, 20))
	n := func() int { return []int{lowest, -1, 0, 1, 2, 3, 5, 11, 12, 64, highest}[r.IntN(11)] }
	for range 5000 {
		s, truth, plan, b := season(), least(), two(), api.HandsBound{Vines: n(), Mornings: make([]int, r.IntN(4))}
		for range r.IntN(3) {
			s.Vines[r.IntN(2)].To, s.Hands[r.IntN(2)].Vines = n(), n()
			s.Hands[r.IntN(2)].Rate, s.Flowers[r.IntN(2)][r.IntN(2)].High = n(), n()
			truth[r.IntN(2)] = truth[r.IntN(2)][:r.IntN(3)]
		}
		plan = append(plan, job(n(), n(), n(), n(), n()))
		for i := range b.Mornings {
			b.Mornings[i] = n()
		}
		code := hands.Check(s)
		if code != api.OK {
			wantErrors(t, "Any", code, s, truth, plan, b, "Hours", "Most", "Plan", "Bound", "Fits", "Number", "Play")
			continue
		}
		hands.Hours(s)
		hands.Most(s)
		hands.Plan(s, truth)
		hands.Bound(s, truth)
		hands.Fits(s, truth, plan)
		hands.Number(s, truth, b)
		hands.Play(s, truth, plan)
	}
}
