package vine_test

import (
	"math/rand/v2"
	"reflect"
	"slices"
	"strings"
	"testing"

	"rostellum/api"
	"rostellum/vine"
)

func span(low, high int) api.Span { return api.Span{Low: low, High: high} }

// season is that of the document's examples.
func season() api.Season {
	return api.Season{
		Days: []api.VineDay{
			{Warm: span(20, 22), Rain: span(0, 0)},
			{Warm: span(18, 20), Rain: span(0, 10)},
			{Warm: span(25, 25), Rain: span(0, 0)},
			{Warm: span(20, 24), Rain: span(0, 0)},
		},
		Base:  10,
		Wet:   5,
		Shade: api.ShadeRule{From: 40, Grows: 10, Cut: 30, Good: span(30, 60)},
	}
}

func racemes() []api.Raceme {
	return []api.Raceme{{Need: 6, Flowers: 2}, {Need: 12, Flowers: 3}}
}

func garden() []api.Vine {
	return []api.Vine{
		{Tag: "a", Leaves: 100, PerPod: 30, Racemes: racemes()},
		{Tag: "b-2", Leaves: 0, PerPod: 1},
		{Tag: "c", Leaves: 10000, PerPod: 1000, Racemes: []api.Raceme{{Need: 0, Flowers: 1}, {Need: 2000, Flowers: 20}}},
	}
}

// with is the season of the examples, changed.
func with(change func(s *api.Season)) api.Season {
	s := season()
	change(&s)
	return s
}

// full is a season at its limits.
func full() api.Season {
	s := api.Season{Base: 50, Wet: 100, Shade: api.ShadeRule{From: 100, Grows: 50, Cut: 100, Good: span(0, 100)}}
	for day := range 40 {
		s.Days = append(s.Days, api.VineDay{Warm: span(0, 50), Rain: span(0, 100)})
		s.Cuts = append(s.Cuts, day)
	}
	return s
}

func wrongSeasons() map[string]api.Season {
	return map[string]api.Season{
		"zero":             {},
		"no day":           with(func(s *api.Season) { s.Days = nil }),
		"41 days":          with(func(s *api.Season) { s.Days = make([]api.VineDay, 41) }),
		"warm below 0":     with(func(s *api.Season) { s.Days[0].Warm = span(-1, 3) }),
		"warm above 50":    with(func(s *api.Season) { s.Days[3].Warm = span(20, 51) }),
		"warm turned":      with(func(s *api.Season) { s.Days[1].Warm = span(20, 19) }),
		"rain below 0":     with(func(s *api.Season) { s.Days[0].Rain = span(-1, 3) }),
		"rain above 100":   with(func(s *api.Season) { s.Days[3].Rain = span(20, 101) }),
		"rain turned":      with(func(s *api.Season) { s.Days[1].Rain = span(20, 19) }),
		"base below 0":     with(func(s *api.Season) { s.Base = -1 }),
		"base above 50":    with(func(s *api.Season) { s.Base = 51 }),
		"wet below 0":      with(func(s *api.Season) { s.Wet = -1 }),
		"wet above 100":    with(func(s *api.Season) { s.Wet = 101 }),
		"from below 0":     with(func(s *api.Season) { s.Shade.From = -1 }),
		"from above 100":   with(func(s *api.Season) { s.Shade.From = 101 }),
		"grows below 0":    with(func(s *api.Season) { s.Shade.Grows = -1 }),
		"grows above 50":   with(func(s *api.Season) { s.Shade.Grows = 51 }),
		"cut below 0":      with(func(s *api.Season) { s.Shade.Cut = -1 }),
		"cut above 100":    with(func(s *api.Season) { s.Shade.Cut = 101 }),
		"good below 0":     with(func(s *api.Season) { s.Shade.Good = span(-1, 3) }),
		"good above 100":   with(func(s *api.Season) { s.Shade.Good = span(20, 101) }),
		"good turned":      with(func(s *api.Season) { s.Shade.Good = span(20, 19) }),
		"cuts before":      with(func(s *api.Season) { s.Cuts = []int{-1, 2} }),
		"cuts behind":      with(func(s *api.Season) { s.Cuts = []int{0, 4} }),
		"cuts twice":       with(func(s *api.Season) { s.Cuts = []int{0, 2, 2} }),
		"cuts backwards":   with(func(s *api.Season) { s.Cuts = []int{2, 1} }),
		"numbers wrap":     with(func(s *api.Season) { s.Shade.From = -1 << 63 }),
		"days of wide low": with(func(s *api.Season) { s.Days[0].Warm = span(-1<<63, 1<<63-1) }),
	}
}

func wrongRacemes() map[string][]api.Raceme {
	return map[string][]api.Raceme{
		"zero":             {{}},
		"9":                slices.Repeat([]api.Raceme{{Need: 1, Flowers: 1}}, 9),
		"need below 0":     {{Need: -1, Flowers: 1}},
		"need above 2000":  {{Need: 1, Flowers: 1}, {Need: 2001, Flowers: 1}},
		"flowers below 1":  {{Need: 1, Flowers: 0}},
		"flowers above 20": {{Need: 1, Flowers: 21}},
	}
}

// P1.1
func TestIsWord(t *testing.T) {
	for _, s := range []string{"a", "z", "abcdefghijklmnop", "a-", "a--b", "z9", "a0", "vine"} {
		if !vine.IsWord(s) {
			t.Errorf("IsWord(%q): false", s)
		}
	}
	for _, s := range []string{"", "A", "aB", "9", "9a", "-", "-a", "abcdefghijklmnopq", "a b", "a_", "a\n", "a\x00", "ä", "aä", "a`", "a{", "a/", "a:", "`", "{"} {
		if vine.IsWord(s) {
			t.Errorf("IsWord(%q): true", s)
		}
	}
}

// P1.1
func TestCheck(t *testing.T) {
	for name, s := range map[string]api.Season{"example": season(), "full": full(), "one day": {Days: make([]api.VineDay, 1)}, "all cut": with(func(s *api.Season) { s.Cuts = []int{0, 1, 2, 3} })} {
		if e := vine.Check(s); e != api.OK {
			t.Errorf("%s: %d", name, e)
		}
	}
	for name, s := range wrongSeasons() {
		if e := vine.Check(s); e != api.ErrVine {
			t.Errorf("%s: %d", name, e)
		}
	}
}

// P1.1, R1, R2: the season comes before the racemes, these before the weather or the day.
func TestOrderOfErrors(t *testing.T) {
	for name, s := range wrongSeasons() {
		l, e := vine.Shades(s)
		want(t, name+": Shades", l, nil, e, api.ErrVine)
		l, e = vine.Heats(s, api.Weather{})
		want(t, name+": Heats", l, nil, e, api.ErrVine)
		l, e = vine.Blooms(s, api.Weather{}, make([]api.Raceme, 9))
		want(t, name+": Blooms", l, nil, e, api.ErrVine)
		l, e = vine.Trim(s)
		want(t, name+": Trim", l, nil, e, api.ErrVine)
		o, e := vine.Opens(s, api.Raceme{})
		want(t, name+": Opens", o, api.Span{}, e, api.ErrVine)
		o, e = vine.Flowers(s, make([]api.Raceme, 9), -1)
		want(t, name+": Flowers", o, api.Span{}, e, api.ErrVine)
	}
	for name, r := range wrongRacemes() {
		l, e := vine.Blooms(season(), api.Weather{}, r)
		want(t, name+": Blooms", l, nil, e, api.ErrVineRow)
		o, e := vine.Flowers(season(), r, -1)
		want(t, name+": Flowers", o, api.Span{}, e, api.ErrVineRow)
		if len(r) < 9 {
			o, e = vine.Opens(season(), r[len(r)-1])
			want(t, name+": Opens", o, api.Span{}, e, api.ErrVineRow)
		}
	}
	if _, e := vine.Flowers(season(), slices.Repeat([]api.Raceme{{Need: 2000, Flowers: 20}}, 8), 0); e != api.OK {
		t.Errorf("8 racemes: %d", e)
	}
}

// want compares a result; a nil list and an empty one are the same.
func want[T any](t *testing.T, name string, got, wanted T, e, code api.Errno) {
	t.Helper()
	if e != code {
		t.Errorf("%s: error %d instead of %d", name, e, code)
	}
	if v := reflect.ValueOf(got); v.Kind() == reflect.Slice && v.Len() == 0 && reflect.ValueOf(wanted).Len() == 0 {
		return
	}
	if !reflect.DeepEqual(got, wanted) {
		t.Errorf("%s: %v instead of %v", name, got, wanted)
	}
}

// P1.2
func TestShades(t *testing.T) {
	for name, x := range map[string]struct {
		s      api.Season
		shades []int
	}{
		"example":       {season(), []int{40, 50, 60, 70}},
		"cut":           {with(func(s *api.Season) { s.Cuts = []int{2} }), []int{40, 50, 30, 40}},
		"cut on day 0":  {with(func(s *api.Season) { s.Cuts = []int{0} }), []int{30, 40, 50, 60}},
		"all cut":       {with(func(s *api.Season) { s.Cuts = []int{0, 1, 2, 3} }), []int{30, 30, 30, 30}},
		"cut in vain":   {with(func(s *api.Season) { s.Cuts, s.Shade.Cut = []int{0, 1}, 50 }), []int{40, 50, 60, 70}},
		"up to 100":     {with(func(s *api.Season) { s.Shade.From, s.Shade.Grows = 60, 35 }), []int{60, 95, 100, 100}},
		"before it cut": {with(func(s *api.Season) { s.Shade.From, s.Shade.Grows, s.Shade.Cut, s.Cuts = 90, 50, 95, []int{1} }), []int{90, 95, 100, 100}},
	} {
		l, e := vine.Shades(x.s)
		want(t, name, l, x.shades, e, api.OK)
	}
}

// P1.2
func TestHeatsAndBlooms(t *testing.T) {
	cold := with(func(s *api.Season) { s.Base = 25 })
	for name, x := range map[string]struct {
		s             api.Season
		warm, rain    []int
		heats, blooms []int
		e             api.Errno
	}{
		"first":        {season(), []int{20, 20, 25, 20}, []int{0, 0, 0, 0}, []int{6, 5, 6, 3}, []int{1, 1, 1, 1}, api.OK},
		"second":       {season(), []int{20, 20, 25, 20}, []int{0, 9, 0, 0}, []int{6, 0, 6, 3}, []int{1, 1, 1, 1}, api.OK},
		"just not wet": {season(), []int{22, 20, 25, 24}, []int{0, 5, 0, 0}, []int{7, 5, 6, 4}, []int{1, 2, 1, 1}, api.OK},
		"just wet":     {season(), []int{22, 20, 25, 24}, []int{0, 6, 0, 0}, []int{7, 0, 6, 4}, []int{1, 1, 1, 1}, api.OK},
		"below base":   {cold, []int{22, 20, 25, 24}, []int{0, 0, 0, 0}, []int{0, 0, 0, 0}, []int{0, 0, 0, 0}, api.OK},
		"no weather":   {season(), nil, nil, nil, nil, api.ErrVineTruth},
		"warmth short": {season(), []int{20, 20, 25}, []int{0, 0, 0, 0}, nil, nil, api.ErrVineTruth},
		"rain short":   {season(), []int{20, 20, 25, 20}, []int{0, 0, 0}, nil, nil, api.ErrVineTruth},
		"long":         {season(), []int{20, 20, 25, 20, 20}, []int{0, 0, 0, 0, 0}, nil, nil, api.ErrVineTruth},
		"too warm":     {season(), []int{23, 20, 25, 20}, []int{0, 0, 0, 0}, nil, nil, api.ErrVineTruth},
		"too cold":     {season(), []int{20, 17, 25, 20}, []int{0, 0, 0, 0}, nil, nil, api.ErrVineTruth},
		"too wet":      {season(), []int{20, 20, 25, 20}, []int{0, 11, 0, 0}, nil, nil, api.ErrVineTruth},
		"too dry":      {season(), []int{20, 20, 25, 20}, []int{0, -1, 0, 0}, nil, nil, api.ErrVineTruth},
	} {
		w := api.Weather{Warm: x.warm, Rain: x.rain}
		l, e := vine.Heats(x.s, w)
		want(t, name+": Heats", l, x.heats, e, x.e)
		l, e = vine.Blooms(x.s, w, racemes())
		want(t, name+": Blooms", l, x.blooms, e, x.e)
	}
	w := api.Weather{Warm: []int{20, 20, 25, 20}, Rain: []int{0, 0, 0, 0}}
	for name, x := range map[string]struct {
		l    []api.Raceme
		want []int
	}{
		"none":          {nil, []int{0, 0, 0, 0}},
		"needs nothing": {[]api.Raceme{{Need: 0, Flowers: 2}}, []int{1, 1, 0, 0}},
		"just enough":   {[]api.Raceme{{Need: 11, Flowers: 1}}, []int{0, 1, 0, 0}},
		"not enough":    {[]api.Raceme{{Need: 21, Flowers: 20}}, []int{0, 0, 0, 0}},
		"season ends":   {[]api.Raceme{{Need: 20, Flowers: 20}, {Need: 7, Flowers: 20}}, []int{0, 1, 1, 2}},
	} {
		l, e := vine.Blooms(season(), w, x.l)
		want(t, name, l, x.want, e, api.OK)
	}
}

// P1.3
func TestOpens(t *testing.T) {
	for need, x := range map[int]api.Span{0: span(0, 0), 6: span(0, 0), 7: span(0, 2), 12: span(1, 2), 17: span(2, 4), 22: span(3, 4), 23: span(4, 4), 40: span(4, 4), 2000: span(4, 4)} {
		o, e := vine.Opens(season(), api.Raceme{Need: need, Flowers: 1})
		want(t, "Opens", o, x, e, api.OK)
	}
}

// P1.4
func TestFlowers(t *testing.T) {
	apart := []api.Raceme{{Need: 7, Flowers: 1}, {Need: 12, Flowers: 1}}
	for name, x := range map[string]struct {
		l    []api.Raceme
		day  int
		want api.Span
		e    api.Errno
	}{
		"day 0":         {racemes(), 0, span(1, 1), api.OK},
		"day 1":         {racemes(), 1, span(1, 2), api.OK},
		"day 2":         {racemes(), 2, span(1, 1), api.OK},
		"day 3":         {racemes(), 3, span(1, 1), api.OK},
		"none":          {nil, 3, span(0, 0), api.OK},
		"empty":         {[]api.Raceme{}, 3, span(0, 0), api.OK},
		"needs nothing": {[]api.Raceme{{Need: 0, Flowers: 3}}, 2, span(1, 1), api.OK},
		"withered":      {[]api.Raceme{{Need: 0, Flowers: 3}}, 3, span(0, 0), api.OK},
		"too much":      {[]api.Raceme{{Need: 2000, Flowers: 20}}, 3, span(0, 0), api.OK},
		"apart on 0":    {apart, 0, span(0, 1), api.OK},
		"apart on 1":    {apart, 1, span(0, 1), api.OK},
		"apart on 2":    {apart, 2, span(0, 2), api.OK},
		"apart on 3":    {apart, 3, span(0, 0), api.OK},
		"day 4":         {racemes(), 4, span(0, 0), api.ErrVineDay},
		"day -1":        {racemes(), -1, span(0, 0), api.ErrVineDay},
		"last int":      {racemes(), 1<<63 - 1, span(0, 0), api.ErrVineDay},
	} {
		o, e := vine.Flowers(season(), x.l, x.day)
		want(t, name, o, x.want, e, x.e)
	}
}

// P1.4, P1: the largest season is searched in reasonable time.
func TestFlowersOfTheLargestSeason(t *testing.T) {
	s := full()
	s.Base, s.Wet, s.Cuts, s.Shade = 0, 50, nil, api.ShadeRule{Good: span(0, 100)}
	var l []api.Raceme
	for k := range 8 {
		l = append(l, api.Raceme{Need: 1925 + k, Flowers: 20})
	}
	o, e := vine.Flowers(s, l, 39)
	want(t, "Flowers", o, span(0, 8), e, api.OK)
	o, e = vine.Flowers(s, append(l[:7:7], api.Raceme{Need: 2000, Flowers: 1}, api.Raceme{}), 39)
	want(t, "Flowers of 9", o, api.Span{}, e, api.ErrVineRow)
	o, e = vine.Opens(s, api.Raceme{Need: 2000, Flowers: 1})
	want(t, "Opens", o, span(39, 40), e, api.OK)
}

// P1.5
func TestTrim(t *testing.T) {
	for name, x := range map[string]struct {
		s    api.Season
		want []int
		e    api.Errno
	}{
		"example":        {season(), []int{0}, api.OK},
		"tight":          {with(func(s *api.Season) { s.Shade.Good = span(35, 60) }), nil, api.ErrNone},
		"begins low":     {with(func(s *api.Season) { s.Shade.From = 20 }), nil, api.ErrNone},
		"begins high":    {with(func(s *api.Season) { s.Shade.From = 61 }), []int{0}, api.OK},
		"needs one":      {with(func(s *api.Season) { s.Shade.Grows = 20 }), []int{2}, api.OK},
		"needs none":     {with(func(s *api.Season) { s.Shade.Grows = 5 }), nil, api.OK},
		"first of many":  {with(func(s *api.Season) { s.Shade.Good, s.Shade.Cut = span(40, 60), 40 }), []int{1}, api.OK},
		"every day":      {with(func(s *api.Season) { s.Shade.Good, s.Shade.Cut, s.Shade.From = span(30, 30), 30, 99 }), []int{0, 1, 2, 3}, api.OK},
		"cut is no help": {with(func(s *api.Season) { s.Shade.Cut = 90 }), nil, api.ErrNone},
		"cuts are other": {with(func(s *api.Season) { s.Cuts = []int{1, 3} }), []int{0}, api.OK},
	} {
		l, e := vine.Trim(x.s)
		want(t, name, l, x.want, e, x.e)
	}
	s := full()
	s.Shade = api.ShadeRule{From: 100, Grows: 1, Cut: 0, Good: span(0, 1)}
	l, e := vine.Trim(s)
	var even []int
	for day := range 20 {
		even = append(even, 2*day)
	}
	want(t, "every other day", l, even, e, api.OK)
}

// P1.6, P1.12
func TestBears(t *testing.T) {
	r := func(flowers ...int) (l []api.Raceme) {
		for _, n := range flowers {
			l = append(l, api.Raceme{Flowers: n})
		}
		return l
	}
	for name, x := range map[string]struct {
		v    api.Vine
		want int
		e    api.Errno
	}{
		"flowers":       {api.Vine{Tag: "a", Leaves: 100, PerPod: 30, Racemes: r(2)}, 2, api.OK},
		"leaves":        {api.Vine{Tag: "a", Leaves: 100, PerPod: 30, Racemes: r(5)}, 3, api.OK},
		"together":      {api.Vine{Tag: "a", Leaves: 100, PerPod: 30, Racemes: r(1, 1)}, 2, api.OK},
		"no racemes":    {api.Vine{Tag: "a", Leaves: 100, PerPod: 30}, 0, api.OK},
		"few leaves":    {api.Vine{Tag: "a", Leaves: 29, PerPod: 30, Racemes: r(20)}, 0, api.OK},
		"most":          {api.Vine{Tag: "a", Leaves: 10000, PerPod: 1, Racemes: r(20, 20, 20, 20, 20, 20, 20, 20)}, 160, api.OK},
		"least a pod":   {api.Vine{Tag: "a", Leaves: 10000, PerPod: 1000, Racemes: r(20)}, 10, api.OK},
		"no leaves":     {api.Vine{Tag: "a", Leaves: 0, PerPod: 1, Racemes: r(20)}, 0, api.OK},
		"no word":       {api.Vine{Tag: "A", Leaves: 9, PerPod: 1}, 0, api.ErrVineRow},
		"leaves -1":     {api.Vine{Tag: "a", Leaves: -1, PerPod: 1}, 0, api.ErrVineRow},
		"leaves 10001":  {api.Vine{Tag: "a", Leaves: 10001, PerPod: 1}, 0, api.ErrVineRow},
		"a pod of 0":    {api.Vine{Tag: "a", Leaves: 9, PerPod: 0}, 0, api.ErrVineRow},
		"a pod of 1001": {api.Vine{Tag: "a", Leaves: 9, PerPod: 1001}, 0, api.ErrVineRow},
		"9 racemes":     {api.Vine{Tag: "a", Leaves: 9, PerPod: 1, Racemes: r(1, 1, 1, 1, 1, 1, 1, 1, 1)}, 0, api.ErrVineRow},
		"wrong raceme":  {api.Vine{Tag: "a", Leaves: 9, PerPod: 1, Racemes: r(1, 21)}, 0, api.ErrVineRow},
	} {
		n, e := vine.Bears(x.v)
		want(t, name, n, x.want, e, x.e)
		if n*x.v.PerPod > x.v.Leaves && e == api.OK {
			t.Errorf("%s: more than the leaves feed", name)
		}
		l := []api.Vine{x.v}
		if c := vine.CheckGarden(l); c != x.e {
			t.Errorf("%s: CheckGarden: %d", name, c)
		}
		if s, c := vine.Print(l); c != x.e || (s == "") != (c != api.OK) {
			t.Errorf("%s: Print: %q, %d", name, s, c)
		}
	}
}

// P1.1, P1.7
func TestGardens(t *testing.T) {
	var many []api.Vine
	for i := range 13 {
		many = append(many, api.Vine{Tag: "v" + string(rune('a'+i)), PerPod: 1})
	}
	twice := garden()
	twice[2].Tag = "a"
	for name, x := range map[string]struct {
		l []api.Vine
		e api.Errno
	}{
		"none":       {nil, api.OK},
		"example":    {garden(), api.OK},
		"12":         {many[:12], api.OK},
		"13":         {many, api.ErrVineRow},
		"a tag more": {twice, api.ErrVineRow},
		"zero":       {make([]api.Vine, 1), api.ErrVineRow},
	} {
		if e := vine.CheckGarden(x.l); e != x.e {
			t.Errorf("%s: CheckGarden: %d", name, e)
		}
		s, e := vine.Print(x.l)
		if e != x.e {
			t.Errorf("%s: Print: %d", name, e)
		}
		if e != api.OK {
			want(t, name, s, "", e, x.e)
			continue
		}
		l, e := vine.Parse(s)
		if e != api.OK || !sameGarden(l, x.l) {
			t.Errorf("%s: Parse: %v, %d", name, l, e)
		}
	}
}

func sameGarden(a, b []api.Vine) bool {
	return slices.EqualFunc(a, b, func(v, w api.Vine) bool {
		return v.Tag == w.Tag && v.Leaves == w.Leaves && v.PerPod == w.PerPod && slices.Equal(v.Racemes, w.Racemes)
	})
}

// P1.7, P1.13
func TestTexts(t *testing.T) {
	text := "vine a 100 30 6 2 12 3\nvine b-2 0 1\nvine c 10000 1000 0 1 2000 20\n"
	s, e := vine.Print(garden())
	want(t, "Print", s, text, e, api.OK)
	l, e := vine.Parse(text)
	if e != api.OK || !sameGarden(l, garden()) {
		t.Errorf("Parse: %v, %d", l, e)
	}
	s, e = vine.Print(nil)
	want(t, "Print of no vine", s, "", e, api.OK)
	l, e = vine.Parse("")
	want(t, "Parse of an empty text", l, nil, e, api.OK)
	long := "vine a 1 1"
	for _, s := range []string{
		"vine a 1 1", "vine", "vine\n", "vine \n", "vine a\n", "vine a 1\n", "vine a 1 1 2\n", "vine a 1 1 2 3 4\n",
		"post a 1 1\n", "Vine a 1 1\n", "vines a 1 1\n", " vine a 1 1\n", "vine  a 1 1\n", "vine a  1 1\n", "vine a 1 1 \n", "vine\ta 1 1\n",
		"vine A 1 1\n", "vine 1 1 1\n", "vine abcdefghijklmnopq 1 1\n", "vine  1 1\n",
		"vine a 01 1\n", "vine a 1 01\n", "vine a 00 1\n", "vine a -0 1\n", "vine a +1 1\n", "vine a -1 1\n", "vine a 1_0 1\n", "vine a 0x1 1\n", "vine a 1.0 1\n", "vine a x 1\n",
		"vine a 10001 1\n", "vine a 1 0\n", "vine a 1 1001\n", "vine a 1 1 2001 1\n", "vine a 1 1 2 0\n", "vine a 1 1 2 21\n",
		"vine a 18446744073709551617 1\n", "vine a 99999999999999999999999999999999 1\n",
		long + strings.Repeat(" 2 3", 9) + "\n",
		"vine a 1 1\nvine a 1 1\n", "vine a 1 1\r\n", "vine a 1 1\n\n", "\nvine a 1 1\n", "\n", " ", "\x00", "vine a 1 1\n ", "vine a 1 1\nvine b 1 1",
		strings.Repeat("vine a 1 1\n", 13), strings.Repeat("a", api.MaxFile), strings.Repeat(" ", api.MaxFile), strings.Repeat("\n", api.MaxFile),
	} {
		l, e := vine.Parse(s)
		want(t, "Parse of "+s[:min(len(s), 40)], l, nil, e, api.ErrForm)
	}
	for _, s := range []string{strings.Repeat("a", api.MaxFile+1), strings.Repeat("vine a 1 1\n", api.MaxFile)} {
		l, e := vine.Parse(s)
		want(t, "Parse of a long text", l, nil, e, api.ErrLimit)
	}
}

// P1.13: whatever is parsed is printed as it was.
func TestChangedTexts(t *testing.T) {
	r := rand.New(rand.NewPCG(7, 11))
	text, _ := vine.Print(garden())
	signs, parsed := "vinea-b 0129\nA+", 0
	for range 20000 {
		b := []byte(text)
		for range 1 + r.IntN(2) {
			i, c := r.IntN(len(b)), signs[r.IntN(len(signs))]
			switch r.IntN(3) {
			case 0:
				b[i] = c
			case 1:
				b = slices.Insert(b, i, c)
			default:
				b = slices.Delete(b, i, i+1)
			}
		}
		l, e := vine.Parse(string(b))
		if e != api.OK {
			want(t, string(b), l, nil, e, api.ErrForm)
			continue
		}
		parsed++
		s, e := vine.Print(l)
		want(t, "Print of what was parsed", s, string(b), e, api.OK)
	}
	if parsed == 0 {
		t.Error("no changed text was one of a garden")
	}
}

// P1.8, P2: arguments stay as they are, and a result that is changed changes no other one.
func TestMemory(t *testing.T) {
	s, l, g := season(), racemes(), garden()
	s.Cuts = []int{2}
	w := api.Weather{Warm: []int{20, 20, 25, 20}, Rain: []int{0, 9, 0, 0}}
	text, _ := vine.Print(g)
	for name, call := range map[string]func() ([]int, api.Errno){
		"Shades": func() ([]int, api.Errno) { return vine.Shades(s) },
		"Heats":  func() ([]int, api.Errno) { return vine.Heats(s, w) },
		"Blooms": func() ([]int, api.Errno) { return vine.Blooms(s, w, l) },
		"Trim":   func() ([]int, api.Errno) { return vine.Trim(s) },
	} {
		first, e := call()
		kept := slices.Clone(first)
		for i := range first {
			first[i] = -7
		}
		again, _ := call()
		want(t, name, again, kept, e, api.OK)
	}
	vine.Flowers(s, l, 2)
	vine.Opens(s, l[1])
	p, _ := vine.Parse(text)
	_ = append(p[0].Racemes, api.Raceme{Need: 1, Flowers: 1})
	p[0].Racemes[0].Need = 1
	q, _ := vine.Parse(text)
	if !sameGarden(q, garden()) || !sameGarden(p[1:], garden()[1:]) || !sameGarden(g, garden()) {
		t.Errorf("gardens changed: %v, %v, %v", p, q, g)
	}
	same := season()
	same.Cuts = []int{2}
	if !reflect.DeepEqual(s, same) || !slices.Equal(l, racemes()) || !slices.Equal(w.Warm, []int{20, 20, 25, 20}) || !slices.Equal(w.Rain, []int{0, 9, 0, 0}) {
		t.Errorf("arguments changed: %v, %v, %v", s, l, w)
	}
}
