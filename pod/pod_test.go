package pod_test

import (
	"math/rand/v2"
	"reflect"
	"slices"
	"strings"
	"testing"

	"rostellum/api"
	"rostellum/pod"
)

const lowest, highest = -1 << 63, 1<<63 - 1

func span(low, high int) api.Span { return api.Span{Low: low, High: high} }

// pods are those of the document's examples.
func pods() []api.Pod {
	return []api.Pod{
		{Tag: "a", Born: 10, Ripe: span(240, 260), Hold: span(30, 40), Gain: span(8, 10)},
		{Tag: "b", Born: 30, Ripe: span(250, 255), Hold: span(20, 30), Gain: span(5, 5)},
		{Tag: "c", Born: 12, Ripe: span(250, 280), Hold: span(20, 25), Gain: span(9, 9)},
	}
}

// truth is that of the document's examples.
func truth() api.PodTruth {
	return api.PodTruth{Ripe: []int{250, 250, 250}, Hold: []int{30, 20, 20}, Gain: []int{10, 5, 9}}
}

// with is the pods of the examples, the first of them changed.
func with(change func(p *api.Pod)) []api.Pod {
	l := pods()
	change(&l[0])
	return l
}

// fixed is a pod of which everything is known.
func fixed(tag string, born, ripe, hold, gain int) api.Pod {
	return api.Pod{Tag: tag, Born: born, Ripe: span(ripe, ripe), Hold: span(hold, hold), Gain: span(gain, gain)}
}

// full are pods at their highest limits.
func full() []api.Pod {
	var l []api.Pod
	for i := range 12 {
		l = append(l, fixed(strings.Repeat("z", 5+i), 1000, 400, 100, 100))
	}
	return l
}

// small is a pod at its lowest limits.
func small() []api.Pod { return []api.Pod{fixed("s", 0, 1, 1, 0)} }

func wrongPods() map[string][]api.Pod {
	return map[string][]api.Pod{
		"zero":               {{}},
		"13 pods":            append(full(), fixed("a", 0, 1, 1, 0)),
		"one tag twice":      append(pods(), fixed("b", 0, 1, 1, 0)),
		"no tag":             with(func(p *api.Pod) { p.Tag = "" }),
		"a long tag":         with(func(p *api.Pod) { p.Tag = strings.Repeat("a", 17) }),
		"tag of a digit":     with(func(p *api.Pod) { p.Tag = "1" }),
		"tag with a capital": with(func(p *api.Pod) { p.Tag = "aB" }),
		"tag with a blank":   with(func(p *api.Pod) { p.Tag = "a b" }),
		"born -1":            with(func(p *api.Pod) { p.Born = -1 }),
		"born 1001":          with(func(p *api.Pod) { p.Born = 1001 }),
		"born lowest":        with(func(p *api.Pod) { p.Born = lowest }),
		"born highest":       with(func(p *api.Pod) { p.Born = highest }),
		"ripe from 0":        with(func(p *api.Pod) { p.Ripe = span(0, 260) }),
		"ripe to 401":        with(func(p *api.Pod) { p.Ripe = span(240, 401) }),
		"ripe turned":        with(func(p *api.Pod) { p.Ripe = span(260, 259) }),
		"hold from 0":        with(func(p *api.Pod) { p.Hold = span(0, 40) }),
		"hold to 101":        with(func(p *api.Pod) { p.Hold = span(30, 101) }),
		"hold turned":        with(func(p *api.Pod) { p.Hold = span(40, 39) }),
		"gain from -1":       with(func(p *api.Pod) { p.Gain = span(-1, 10) }),
		"gain to 101":        with(func(p *api.Pod) { p.Gain = span(8, 101) }),
		"gain turned":        with(func(p *api.Pod) { p.Gain = span(10, 9) }),
		"widest span":        with(func(p *api.Pod) { p.Gain = span(lowest, highest) }),
		"last is wrong":      append(pods(), api.Pod{Tag: "d"}),
	}
}

func wrongPlans() map[string][]int {
	return map[string][]int{
		"none":        nil,
		"short":       {275, 290},
		"long":        {275, 290, 285, 285},
		"before born": {9, 290, 285},
		"b not born":  {275, 29, 285},
		"-2":          {275, 290, -2},
		"2001":        {2001, 290, 285},
		"lowest":      {275, lowest, 285},
		"highest":     {275, 290, highest},
	}
}

func wrongTruths() map[string]api.PodTruth {
	change := func(f func(t *api.PodTruth)) api.PodTruth {
		t := truth()
		f(&t)
		return t
	}
	return map[string]api.PodTruth{
		"zero":            {},
		"ripe short":      change(func(t *api.PodTruth) { t.Ripe = t.Ripe[:2] }),
		"hold short":      change(func(t *api.PodTruth) { t.Hold = t.Hold[:2] }),
		"gain short":      change(func(t *api.PodTruth) { t.Gain = t.Gain[:2] }),
		"ripe long":       change(func(t *api.PodTruth) { t.Ripe = append(t.Ripe, 250) }),
		"hold long":       change(func(t *api.PodTruth) { t.Hold = append(t.Hold, 20) }),
		"gain long":       change(func(t *api.PodTruth) { t.Gain = append(t.Gain, 9) }),
		"ripe too early":  change(func(t *api.PodTruth) { t.Ripe[0] = 239 }),
		"ripe too late":   change(func(t *api.PodTruth) { t.Ripe[1] = 256 }),
		"holds too short": change(func(t *api.PodTruth) { t.Hold[2] = 19 }),
		"holds too long":  change(func(t *api.PodTruth) { t.Hold[0] = 41 }),
		"gains too much":  change(func(t *api.PodTruth) { t.Gain[1] = 6 }),
		"gains too few":   change(func(t *api.PodTruth) { t.Gain[0] = 7 }),
		"ripe highest":    change(func(t *api.PodTruth) { t.Ripe[2] = highest }),
		"hold lowest":     change(func(t *api.PodTruth) { t.Hold[2] = lowest }),
	}
}

func wrongMarkets() map[string]api.Span {
	return map[string]api.Span{
		"from -1":  span(-1, 300),
		"to 2001":  span(0, 2001),
		"turned":   span(300, 299),
		"negative": span(-5, -1),
		"too late": span(2001, 2002),
		"widest":   span(lowest, highest),
		"narrow":   span(highest, lowest),
	}
}

func wrongRounds() map[string][]int {
	return map[string][]int{
		"-1":         {-1},
		"-1 first":   {-1, 279},
		"2001":       {279, 2001},
		"one twice":  {275, 279, 279},
		"turned":     {279, 275},
		"13 rounds":  {0, 1, 2, 3, 4, 5, 6, 7, 8, 9, 10, 11, 12},
		"lowest":     {lowest},
		"highest":    {highest},
		"wrong last": {275, 279, 290, 289},
	}
}

// opening is when a market can begin, and how long it is.
type opening struct {
	days api.Span
	long int
}

func wrongOpenings() map[string]opening {
	return map[string]opening{
		"no day long":   {span(260, 300), 0},
		"-1 day long":   {span(260, 300), -1},
		"401 days long": {span(260, 300), 401},
		"lowest long":   {span(260, 300), lowest},
		"highest long":  {span(260, 300), highest},
		"from -1":       {span(-1, 300), 10},
		"turned":        {span(300, 299), 10},
		"2001":          {span(0, 2001), 1},
		"1992":          {span(0, 1992), 10},
		"1602":          {span(1602, 1602), 400},
		"widest":        {span(lowest, highest), 10},
	}
}

// want compares a result; a nil list and an empty one are the same.
func want[T any](t *testing.T, name string, got, wanted T, e, code api.Errno) {
	t.Helper()
	if e != code {
		t.Errorf("%s: error %d instead of %d", name, e, code)
	}
	if v := reflect.ValueOf(got); v.Kind() == reflect.Slice && v.Len() == 0 && reflect.ValueOf(wanted).Len() == 0 {
		return
	}
	if !reflect.DeepEqual(got, wanted) {
		t.Errorf("%s: %v instead of %v", name, got, wanted)
	}
}

// arguments are those of all functions.
type arguments struct {
	l      []api.Pod
	plan   []int
	truth  api.PodTruth
	market api.Span
	rounds []int
	open   opening
}

// right are arguments with which no function has an error.
func right() arguments {
	return arguments{pods(), []int{275, 290, 285}, truth(), span(0, 2000), []int{275, 279, 290}, opening{span(260, 300), 10}}
}

// wantErrors compares the errors of the functions that are named with a code, and their other results with nothing.
func wantErrors(t *testing.T, name string, code api.Errno, a arguments, which ...string) {
	t.Helper()
	for _, f := range which {
		at := name + ": " + f
		switch f {
		case "Check":
			want(t, at, 0, 0, pod.Check(a.l), code)
		case "Harvest":
			y, e := pod.Harvest(a.l, a.plan, a.truth)
			want(t, at, y, api.Yield{}, e, code)
		case "Weigh":
			s, e := pod.Weigh(a.l, a.plan)
			want(t, at, s, api.PodSpans{}, e, code)
		case "Rounds":
			l, e := pod.Rounds(a.l, a.market)
			want(t, at, l, nil, e, code)
		case "Apart":
			l, e := pod.Apart(a.l, a.market)
			want(t, at, l, nil, e, code)
		case "Plan":
			l, e := pod.Plan(a.l, a.rounds)
			want(t, at, l, nil, e, code)
		case "Market":
			day, grams, e := pod.Market(a.l, a.open.days, a.open.long)
			want(t, at, [2]int{day, grams}, [2]int{}, e, code)
		default:
			t.Fatalf("no function %s", f)
		}
	}
}

// P3.1
func TestCheck(t *testing.T) {
	for name, l := range map[string][]api.Pod{
		"example": pods(),
		"none":    nil,
		"empty":   {},
		"full":    full(),
		"small":   small(),
		"widest":  {{Tag: "w", Born: 1000, Ripe: span(1, 400), Hold: span(1, 100), Gain: span(0, 100)}},
		"a-1":     {fixed("a-1", 1, 2, 3, 4)},
	} {
		if e := pod.Check(l); e != api.OK {
			t.Errorf("%s: %d", name, e)
		}
	}
	for name, l := range wrongPods() {
		if e := pod.Check(l); e != api.ErrPods {
			t.Errorf("%s: %d", name, e)
		}
	}
}

// P3.1 to P3.6, R1, R2: the pods come before the plan, the market or the rounds, and the plan before the truth.
func TestOrderOfErrors(t *testing.T) {
	for name, l := range wrongPods() {
		a := right()
		a.l = l
		wantErrors(t, name, api.ErrPods, a, "Check", "Harvest", "Weigh", "Rounds", "Apart", "Plan", "Market")
		a = arguments{l: l, plan: []int{-2}, market: span(1, 0), rounds: []int{-1}}
		wantErrors(t, name, api.ErrPods, a, "Check", "Harvest", "Weigh", "Rounds", "Apart", "Plan", "Market")
	}
	for name, plan := range wrongPlans() {
		a := right()
		a.plan = plan
		wantErrors(t, name, api.ErrPodPlan, a, "Harvest", "Weigh")
		a.truth = api.PodTruth{}
		wantErrors(t, name, api.ErrPodPlan, a, "Harvest")
	}
	for name, wrong := range wrongTruths() {
		a := right()
		a.truth = wrong
		wantErrors(t, name, api.ErrPodTruth, a, "Harvest")
	}
	for name, market := range wrongMarkets() {
		a := right()
		a.market = market
		wantErrors(t, name, api.ErrPodPlan, a, "Rounds", "Apart")
		a.l = nil
		wantErrors(t, name+", no pods", api.ErrPodPlan, a, "Rounds", "Apart")
	}
	for name, rounds := range wrongRounds() {
		a := right()
		a.rounds = rounds
		wantErrors(t, name, api.ErrPodPlan, a, "Plan")
		a.l = nil
		wantErrors(t, name+", no pods", api.ErrPodPlan, a, "Plan")
	}
	for name, open := range wrongOpenings() {
		a := right()
		a.open = open
		wantErrors(t, name, api.ErrRange, a, "Market")
		a.l = nil
		wantErrors(t, name+", no pods", api.ErrRange, a, "Market")
	}
}

// P3.2
func TestWindow(t *testing.T) {
	for name, x := range map[string]struct {
		p    api.Pod
		want api.Span
		e    api.Errno
	}{
		"a":         {pods()[0], span(270, 279), api.OK},
		"b":         {pods()[1], span(285, 299), api.OK},
		"c":         {pods()[2], span(0, 0), api.ErrNone},
		"one day":   {api.Pod{Tag: "p", Born: 10, Ripe: span(20, 29), Hold: span(10, 10)}, span(39, 39), api.OK},
		"no day":    {api.Pod{Tag: "p", Born: 10, Ripe: span(20, 30), Hold: span(10, 100)}, span(0, 0), api.ErrNone},
		"small":     {small()[0], span(1, 1), api.OK},
		"full":      {full()[0], span(1400, 1499), api.OK},
		"widest":    {api.Pod{Tag: "p", Ripe: span(1, 400), Hold: span(1, 100)}, span(0, 0), api.ErrNone},
		"known":     {fixed("p", 100, 200, 30, 0), span(300, 329), api.OK},
		"wrong tag": {api.Pod{Ripe: span(1, 1), Hold: span(1, 1)}, span(0, 0), api.ErrPods},
	} {
		w, e := pod.Window(x.p)
		want(t, name, w, x.want, e, x.e)
	}
	for name, l := range wrongPods() {
		if name != "13 pods" && name != "one tag twice" && name != "last is wrong" {
			w, e := pod.Window(l[0])
			want(t, name, w, api.Span{}, e, api.ErrPods)
		}
	}
}

// P3.3
func TestHarvest(t *testing.T) {
	for name, x := range map[string]struct {
		plan []int
		want api.Yield
	}{
		"example":            {[]int{275, 290, -1}, api.Yield{Ripe: 37, Left: 1}},
		"all left":           {[]int{-1, -1, -1}, api.Yield{Left: 3}},
		"as they are born":   {[]int{10, 30, 12}, api.Yield{}},
		"a last green day":   {[]int{259, -1, -1}, api.Yield{Green: 24, Left: 2}},
		"a first ripe day":   {[]int{260, -1, -1}, api.Yield{Ripe: 25, Left: 2}},
		"a last ripe day":    {[]int{289, -1, -1}, api.Yield{Ripe: 25, Left: 2}},
		"a splits":           {[]int{290, -1, -1}, api.Yield{Split: 1, Left: 2}},
		"all too late":       {[]int{2000, 2000, 2000}, api.Yield{Split: 3}},
		"each one its own":   {[]int{200, 300, 262}, api.Yield{Ripe: 22, Green: 19, Split: 1}},
		"each weight is cut": {[]int{-1, 280, 281}, api.Yield{Ripe: 12 + 22, Left: 1}},
	} {
		y, e := pod.Harvest(pods(), x.plan, truth())
		want(t, name, y, x.want, e, api.OK)
	}
	y, e := pod.Harvest(nil, nil, api.PodTruth{})
	want(t, "no pods", y, api.Yield{}, e, api.OK)
	y, e = pod.Harvest(full(), slices.Repeat([]int{1400}, 12), api.PodTruth{Ripe: slices.Repeat([]int{400}, 12), Hold: slices.Repeat([]int{100}, 12), Gain: slices.Repeat([]int{100}, 12)})
	want(t, "full", y, api.Yield{Ripe: 4800}, e, api.OK)
	y, e = pod.Harvest(small(), []int{0}, api.PodTruth{Ripe: []int{1}, Hold: []int{1}, Gain: []int{0}})
	want(t, "small", y, api.Yield{}, e, api.OK)
}

// P3.3
func TestWeigh(t *testing.T) {
	for name, x := range map[string]struct {
		plan []int
		want api.PodSpans
	}{
		"example":          {[]int{275, 290, 285}, api.PodSpans{Ripe: span(31, 62), Green: span(0, 24), Split: span(0, 1)}},
		"too early":        {[]int{200, 290, -1}, api.PodSpans{Ripe: span(12, 12), Green: span(15, 19)}},
		"none":             {[]int{-1, -1, -1}, api.PodSpans{}},
		"born":             {[]int{10, 30, 12}, api.PodSpans{}},
		"2000":             {[]int{2000, 2000, 2000}, api.PodSpans{Split: span(3, 3)}},
		"a surely green":   {[]int{249, -1, -1}, api.PodSpans{Green: span(19, 23)}},
		"a perhaps ripe":   {[]int{250, -1, -1}, api.PodSpans{Ripe: span(0, 24), Green: span(0, 24)}},
		"a almost surely":  {[]int{269, -1, -1}, api.PodSpans{Ripe: span(0, 25), Green: span(0, 25)}},
		"a surely ripe":    {[]int{270, -1, -1}, api.PodSpans{Ripe: span(19, 26)}},
		"a still sure":     {[]int{279, -1, -1}, api.PodSpans{Ripe: span(19, 26)}},
		"a perhaps split":  {[]int{280, -1, -1}, api.PodSpans{Ripe: span(0, 26), Split: span(0, 1)}},
		"a perhaps not":    {[]int{309, -1, -1}, api.PodSpans{Ripe: span(0, 26), Split: span(0, 1)}},
		"a surely split":   {[]int{310, -1, -1}, api.PodSpans{Split: span(1, 1)}},
		"all three states": {[]int{-1, -1, 285}, api.PodSpans{Ripe: span(0, 24), Green: span(0, 24), Split: span(0, 1)}},
	} {
		s, e := pod.Weigh(pods(), x.plan)
		want(t, name, s, x.want, e, api.OK)
	}
	s, e := pod.Weigh(nil, nil)
	want(t, "no pods", s, api.PodSpans{}, e, api.OK)
	s, e = pod.Weigh(full(), slices.Repeat([]int{1499}, 12))
	want(t, "full", s, api.PodSpans{Ripe: span(4800, 4800)}, e, api.OK)
	widest := api.Pod{Tag: "w", Ripe: span(1, 400), Hold: span(1, 100), Gain: span(0, 100)}
	s, e = pod.Weigh([]api.Pod{widest}, []int{399})
	want(t, "widest", s, api.PodSpans{Ripe: span(0, 399), Green: span(0, 399), Split: span(0, 1)}, e, api.OK)
}

// P3.4
func TestRounds(t *testing.T) {
	near := []api.Pod{fixed("p", 0, 10, 5, 1), fixed("q", 0, 14, 3, 1), fixed("r", 0, 15, 9, 1), fixed("s", 0, 20, 2, 1)}
	for name, x := range map[string]struct {
		l      []api.Pod
		market api.Span
		rounds []int
	}{
		"whole":             {pods(), span(0, 2000), []int{279, 299}},
		"272 to 290":        {pods(), span(272, 290), []int{279, 290}},
		"280 to 400":        {pods(), span(280, 400), []int{299}},
		"before all":        {pods(), span(0, 269), nil},
		"first day of a":    {pods(), span(0, 270), []int{270}},
		"last day of a":     {pods(), span(279, 284), []int{279}},
		"between":           {pods(), span(280, 284), nil},
		"one day":           {pods(), span(285, 285), []int{285}},
		"last day of b":     {pods(), span(299, 2000), []int{299}},
		"after all":         {pods(), span(300, 2000), nil},
		"no pods":           {nil, span(0, 2000), nil},
		"windows that meet": {near, span(0, 2000), []int{14, 21}},
		"cut to two":        {near, span(0, 16), []int{14, 16}},
		"one of each":       {near, span(14, 14), []int{14}},
		"14 to 15":          {near, span(14, 15), []int{14, 15}},
		"from 15":           {near, span(15, 2000), []int{16, 21}},
		"all at once":       {full(), span(0, 2000), []int{1499}},
		"the last day":      {small(), span(1, 1), []int{1}},
	} {
		l, e := pod.Rounds(x.l, x.market)
		want(t, name, l, x.rounds, e, api.OK)
		apart, e := pod.Apart(x.l, x.market)
		want(t, name, len(apart), len(x.rounds), e, api.OK)
	}
}

// P3.4
func TestApart(t *testing.T) {
	for name, x := range map[string]struct {
		l      []api.Pod
		market api.Span
		want   []int
	}{
		"whole":        {pods(), span(0, 2000), []int{0, 1}},
		"turned":       {[]api.Pod{pods()[1], pods()[2], pods()[0]}, span(0, 2000), []int{0, 2}},
		"no pod":       {pods(), span(280, 284), nil},
		"b alone":      {pods(), span(280, 300), []int{1}},
		"a long one":   {[]api.Pod{fixed("p", 0, 10, 30, 1), fixed("q", 0, 10, 5, 1), fixed("r", 0, 15, 5, 1), fixed("s", 0, 20, 5, 1)}, span(0, 99), []int{1, 2, 3}},
		"not in order": {[]api.Pod{fixed("p", 0, 30, 5, 1), fixed("q", 0, 10, 5, 1), fixed("r", 0, 20, 5, 1)}, span(0, 99), []int{0, 1, 2}},
	} {
		l, e := pod.Apart(x.l, x.market)
		want(t, name, l, x.want, e, api.OK)
	}
}

// P3.5
func TestPlan(t *testing.T) {
	for name, x := range map[string]struct {
		rounds, want []int
	}{
		"example":        {[]int{275, 279, 290}, []int{279, 290, -1}},
		"none":           {nil, []int{-1, -1, -1}},
		"just outside":   {[]int{269, 280, 284, 300}, []int{-1, -1, -1}},
		"first days":     {[]int{270, 285}, []int{270, 285, -1}},
		"last days":      {[]int{279, 299}, []int{279, 299, -1}},
		"one for each":   {[]int{0, 272, 285, 2000}, []int{272, 285, -1}},
		"all in windows": {[]int{270, 271, 272, 273, 274, 275, 276, 277, 278, 297, 298, 299}, []int{278, 299, -1}},
	} {
		l, e := pod.Plan(pods(), x.rounds)
		want(t, name, l, x.want, e, api.OK)
	}
	l, e := pod.Plan(nil, []int{0, 2000})
	want(t, "no pods", l, nil, e, api.OK)
	l, e = pod.Plan(small(), []int{0, 1})
	want(t, "small", l, []int{1}, e, api.OK)
}

// P3.6
func TestMarket(t *testing.T) {
	apart := []api.Pod{fixed("p", 0, 100, 1, 10), fixed("q", 0, 200, 1, 5), fixed("r", 0, 300, 1, 3)}
	for name, x := range map[string]struct {
		l          []api.Pod
		days       api.Span
		long       int
		day, grams int
	}{
		"10 days":             {pods(), span(260, 300), 10, 276, 31},
		"5 days":              {pods(), span(280, 300), 5, 281, 12},
		"one day":             {pods(), span(0, 2000), 1, 270, 19},
		"7 days, both":        {pods(), span(0, 1994), 7, 279, 31},
		"6 days, one":         {pods(), span(0, 1995), 6, 265, 19},
		"whole":               {pods(), span(0, 1601), 400, 0, 31},
		"from 280":            {pods(), span(280, 280), 400, 280, 12},
		"all is sold":         {pods(), span(300, 310), 10, 300, 0},
		"last days":           {pods(), span(2000, 2000), 1, 2000, 0},
		"last of 400":         {pods(), span(1601, 1601), 400, 1601, 0},
		"no pods":             {nil, span(5, 9), 3, 5, 0},
		"weighs nothing":      {small(), span(0, 1), 2, 0, 0},
		"first of as many":    {apart, span(0, 2000), 1, 100, 10},
		"later of as many":    {apart, span(101, 2000), 1, 200, 10},
		"more though later":   {apart, span(0, 1900), 101, 100, 20},
		"least of the truths": {pods()[:1], span(270, 270), 1, 270, 19},
		"full":                {full(), span(0, 2000), 1, 1400, 4800},
	} {
		day, grams, e := pod.Market(x.l, x.days, x.long)
		want(t, name, [2]int{day, grams}, [2]int{x.day, x.grams}, e, api.OK)
	}
}

// P3.7, P2: arguments stay as they are, and a result that is changed changes no other one.
func TestMemory(t *testing.T) {
	a := right()
	spoil := map[string]func() []int{
		"Rounds": func() []int { l, _ := pod.Rounds(a.l, a.market); return l },
		"Apart":  func() []int { l, _ := pod.Apart(a.l, a.market); return l },
		"Plan":   func() []int { l, _ := pod.Plan(a.l, a.rounds); return l },
	}
	for name, call := range spoil {
		first := call()
		kept := slices.Clone(first)
		clear(first)
		if again := call(); !slices.Equal(kept, again) {
			t.Errorf("%s: %v, and then %v", name, kept, again)
		}
	}
	pod.Check(a.l)
	pod.Window(a.l[0])
	pod.Harvest(a.l, a.plan, a.truth)
	pod.Weigh(a.l, a.plan)
	pod.Market(a.l, a.open.days, a.open.long)
	if !reflect.DeepEqual(a, right()) {
		t.Errorf("arguments changed: %v", a)
	}
}

// P1: no function panics, whatever the arguments are.
func TestAnyArguments(t *testing.T) {
	r := rand.New(rand.NewPCG(3, 10))
	n := func() int { return []int{lowest, -1, 0, 1, 2, 100, 270, 400, 1000, 2000, 2001, highest}[r.IntN(12)] }
	for range 5000 {
		a := right()
		a.l = a.l[:r.IntN(4)]
		for i := range a.l {
			if r.IntN(2) == 0 {
				a.l[i].Born, a.l[i].Ripe, a.l[i].Hold, a.l[i].Gain = n(), span(n(), n()), span(n(), n()), span(n(), n())
			}
		}
		a.plan = []int{n(), n(), n()}[:r.IntN(4)]
		a.truth = api.PodTruth{Ripe: []int{n(), n(), n()}[:r.IntN(4)], Hold: []int{n(), 30}, Gain: []int{n(), n(), n()}}
		a.market, a.rounds, a.open = span(n(), n()), []int{n(), n()}, opening{span(n(), n()), n()}
		if code := pod.Check(a.l); code != api.OK {
			wantErrors(t, "Any", code, a, "Harvest", "Weigh", "Rounds", "Apart", "Plan", "Market")
			continue
		}
		pod.Harvest(a.l, a.plan, a.truth)
		pod.Weigh(a.l, a.plan)
		pod.Rounds(a.l, a.market)
		pod.Apart(a.l, a.market)
		pod.Plan(a.l, a.rounds)
		pod.Market(a.l, a.open.days, a.open.long)
	}
}
