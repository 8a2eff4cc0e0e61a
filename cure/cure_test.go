package cure_test

import (
	"math/rand/v2"
	"reflect"
	"slices"
	"testing"

	"rostellum/api"
	"rostellum/cure"
)

const lowest, highest = -1 << 63, 1<<63 - 1

func span(low, high int) api.Span { return api.Span{Low: low, High: high} }

// rule is that of the document's examples: scald, sun, rest.
func rule() []api.CureAct {
	return []api.CureAct{
		{First: true, Most: 1, Loss: span(0, 2)},
		{Warm: 25, Behind: 5, Dry: true, Most: 2, Loss: span(20, 30)},
		{Behind: 3, Most: 3, Loss: span(5, 8)},
	}
}

// days are those of the document's examples.
func days() []api.CureDay {
	return []api.CureDay{{Warm: span(20, 22)}, {Warm: span(26, 30)}, {Warm: span(28, 33), Rain: true}, {Warm: span(30, 31)}, {Warm: span(22, 30)}}
}

// box is that of the document's examples.
func box() api.CureBox { return api.CureBox{Weight: span(200, 204), Solid: span(100, 102)} }

// truth is that of the document's examples, of the acts 0 1.
func truth() api.CureTruth { return api.CureTruth{Weight: 202, Solid: 101, Losses: []int{1, 25}} }

func acts(l ...int) []int { return l }

func reads(l ...api.CureRead) []api.CureRead { return l }

func read(day, n, wrong int) api.CureRead { return api.CureRead{Day: day, Read: n, Wrong: wrong} }

// ruleWith is the rule of the examples, of which an act is changed.
func ruleWith(i int, change func(a *api.CureAct)) []api.CureAct {
	r := rule()
	change(&r[i])
	return r
}

// daysWith are the days of the examples, of which one is changed.
func daysWith(i int, change func(d *api.CureDay)) []api.CureDay {
	d := days()
	change(&d[i])
	return d
}

// truthWith is the truth of the examples, changed.
func truthWith(change func(t *api.CureTruth)) api.CureTruth {
	t := truth()
	change(&t)
	return t
}

// free are acts that can be done at any time, with these losses.
func free(losses ...api.Span) []api.CureAct {
	var r []api.CureAct
	for _, l := range losses {
		r = append(r, api.CureAct{Behind: 1<<len(losses) - 1, First: true, Most: 14, Loss: l})
	}
	return r
}

// fine are so many days on which everything can be done.
func fine(many int) []api.CureDay {
	return slices.Repeat([]api.CureDay{{Warm: span(60, 60)}}, many)
}

// want compares a result; a nil list and an empty one are the same.
func want[T any](t *testing.T, name string, got, wanted T, e, code api.Errno) {
	t.Helper()
	if e != code {
		t.Errorf("%s: error %d instead of %d", name, e, code)
	}
	if v := reflect.ValueOf(got); v.Kind() == reflect.Slice && v.Len() == 0 && reflect.ValueOf(wanted).Len() == 0 {
		return
	}
	if !reflect.DeepEqual(got, wanted) {
		t.Errorf("%s: %v instead of %v", name, got, wanted)
	}
}

func wrongRules() map[string][]api.CureAct {
	return map[string][]api.CureAct{
		"no act":          nil,
		"zero":            make([]api.CureAct, 1),
		"6 acts":          free(make([]api.Span, 6)...),
		"warm -1":         ruleWith(0, func(a *api.CureAct) { a.Warm = -1 }),
		"warm 61":         ruleWith(2, func(a *api.CureAct) { a.Warm = 61 }),
		"lowest warm":     ruleWith(1, func(a *api.CureAct) { a.Warm = lowest }),
		"highest warm":    ruleWith(1, func(a *api.CureAct) { a.Warm = highest }),
		"behind -1":       ruleWith(0, func(a *api.CureAct) { a.Behind = -1 }),
		"behind 8":        ruleWith(1, func(a *api.CureAct) { a.Behind = 8 }),
		"behind of 5":     ruleWith(2, func(a *api.CureAct) { a.Behind = 19 }),
		"lowest behind":   ruleWith(1, func(a *api.CureAct) { a.Behind = lowest }),
		"highest behind":  ruleWith(1, func(a *api.CureAct) { a.Behind = highest }),
		"most 0":          ruleWith(1, func(a *api.CureAct) { a.Most = 0 }),
		"most -1":         ruleWith(1, func(a *api.CureAct) { a.Most = -1 }),
		"most 15":         ruleWith(2, func(a *api.CureAct) { a.Most = 15 }),
		"lowest most":     ruleWith(0, func(a *api.CureAct) { a.Most = lowest }),
		"highest most":    ruleWith(0, func(a *api.CureAct) { a.Most = highest }),
		"loss from -1":    ruleWith(0, func(a *api.CureAct) { a.Loss = span(-1, 2) }),
		"loss to 10001":   ruleWith(1, func(a *api.CureAct) { a.Loss = span(20, 10001) }),
		"loss turned":     ruleWith(2, func(a *api.CureAct) { a.Loss = span(8, 7) }),
		"loss above":      ruleWith(2, func(a *api.CureAct) { a.Loss = span(10001, 10001) }),
		"widest loss":     ruleWith(1, func(a *api.CureAct) { a.Loss = span(lowest, highest) }),
		"loss far turned": ruleWith(1, func(a *api.CureAct) { a.Loss = span(highest, lowest) }),
	}
}

func goodRules() map[string][]api.CureAct {
	return map[string][]api.CureAct{
		"example":   rule(),
		"least":     {{Most: 1}},
		"greatest":  free(span(10000, 10000), span(0, 10000), span(0, 0), span(9999, 10000), span(1, 1)),
		"warmest":   {{Warm: 60, Behind: 1, Most: 14, First: true, Dry: true, Loss: span(0, 10000)}},
		"no first":  ruleWith(0, func(a *api.CureAct) { a.First = false }),
		"behind it": ruleWith(1, func(a *api.CureAct) { a.Behind = 7 }),
	}
}

func wrongDays() map[string][]api.CureDay {
	return map[string][]api.CureDay{
		"no day":       nil,
		"15 days":      fine(15),
		"warm from -1": daysWith(0, func(d *api.CureDay) { d.Warm = span(-1, 22) }),
		"warm to 61":   daysWith(4, func(d *api.CureDay) { d.Warm = span(22, 61) }),
		"warm turned":  daysWith(2, func(d *api.CureDay) { d.Warm = span(33, 32) }),
		"warm above":   daysWith(2, func(d *api.CureDay) { d.Warm = span(61, 61) }),
		"widest warm":  daysWith(2, func(d *api.CureDay) { d.Warm = span(lowest, highest) }),
		"far turned":   daysWith(2, func(d *api.CureDay) { d.Warm = span(highest, lowest) }),
	}
}

func goodDays() map[string][]api.CureDay {
	return map[string][]api.CureDay{
		"example":  days(),
		"zero":     make([]api.CureDay, 1),
		"14 days":  fine(14),
		"any warm": {{Warm: span(0, 60), Rain: true}},
	}
}

func wrongBoxes() map[string]api.CureBox {
	return map[string]api.CureBox{
		"zero":              {},
		"weight from 0":     {Weight: span(0, 204), Solid: span(100, 102)},
		"weight to 1000001": {Weight: span(200, 1000001), Solid: span(100, 102)},
		"weight turned":     {Weight: span(204, 203), Solid: span(100, 102)},
		"weight below":      {Weight: span(-5, -1), Solid: span(100, 102)},
		"widest weight":     {Weight: span(lowest, highest), Solid: span(100, 102)},
		"no weight":         {Solid: span(100, 102)},
		"solid from 0":      {Weight: span(200, 204), Solid: span(0, 102)},
		"solid to 1000001":  {Weight: span(200, 204), Solid: span(100, 1000001)},
		"solid turned":      {Weight: span(200, 204), Solid: span(102, 100)},
		"solid above":       {Weight: span(200, 204), Solid: span(1000001, 1000001)},
		"widest solid":      {Weight: span(200, 204), Solid: span(lowest, highest)},
		"no solid":          {Weight: span(200, 204)},
		"far turned":        {Weight: span(highest, lowest), Solid: span(highest, lowest)},
	}
}

func wrongActs() map[string][]int {
	return map[string][]int{
		"not first":        {1},
		"rest first":       {2, 1},
		"-1":               {-1},
		"3":                {3},
		"3 behind":         {0, 3},
		"-1 behind":        {0, -1},
		"lowest":           {0, lowest},
		"highest":          {highest},
		"more than days":   {0, 1, 2, 1, 2, 2},
		"in the rain":      {0, 1, 1},
		"too often":        {0, 0},
		"not behind":       {0, 1, 2, 0},
		"too cold":         {0, 2, 2, 2, 1},
		"too many in all":  {0, 2, 2, 2, 2},
		"very many":        make([]int, 100000),
		"last one of many": {0, 1, 2, 1, 0},
	}
}

func wrongReads() map[string][]api.CureRead {
	return map[string][]api.CureRead{
		"11":            make([]api.CureRead, 11),
		"day -1":        reads(read(-1, 200, 2)),
		"day 3":         reads(read(1, 200, 2), read(3, 200, 2)),
		"lowest day":    reads(read(lowest, 200, 2)),
		"highest day":   reads(read(highest, 200, 2)),
		"read -1":       reads(read(0, -1, 2)),
		"read 1010001":  reads(read(0, 1010001, 2)),
		"lowest read":   reads(read(0, lowest, 2)),
		"highest read":  reads(read(0, highest, 2)),
		"wrong -1":      reads(read(0, 200, -1)),
		"wrong 10001":   reads(read(0, 200, 10001)),
		"lowest wrong":  reads(read(0, 200, lowest)),
		"highest wrong": reads(read(0, 200, highest)),
		"the last one":  reads(read(0, 200, 2), read(1, 200, 2), read(2, 200, 10001)),
	}
}

func wrongLimits() map[string]api.Span {
	return map[string]api.Span{
		"from -1":    span(-1, 400),
		"to 1001":    span(400, 1001),
		"turned":     span(400, 399),
		"above":      span(1001, 1001),
		"widest":     span(lowest, highest),
		"far turned": span(highest, lowest),
	}
}

// P6.1
func TestCheck(t *testing.T) {
	for name, r := range wrongRules() {
		want(t, name, cure.Check(r, days()), api.ErrCureRule, 0, 0)
		want(t, name+", no days", cure.Check(r, nil), api.ErrCureRule, 0, 0)
	}
	for name, d := range wrongDays() {
		want(t, name, cure.Check(rule(), d), api.ErrCureDays, 0, 0)
	}
	for name, r := range goodRules() {
		for other, d := range goodDays() {
			want(t, name+", "+other, cure.Check(r, d), api.OK, 0, 0)
		}
	}
}

// wantErrors wants one error of all functions that are given these, and no result beside it.
func wantErrors(t *testing.T, name string, r []api.CureAct, d []api.CureDay, b api.CureBox, acts []int, l []api.CureRead, limit api.Span, code api.Errno) {
	t.Helper()
	if code == api.ErrCureRule || code == api.ErrCureDays {
		ok, e := cure.Can(r, d, acts)
		want(t, name+": Can", ok, false, e, code)
	}
	if code != api.ErrCureRead && code != api.ErrRange {
		w, m, e := cure.Follow(r, d, b, acts, api.CureTruth{})
		want(t, name+": Follow", w, nil, e, code)
		want(t, name+": Follow", m, nil, e, code)
	}
	if code != api.ErrRange {
		w, e := cure.Weights(r, d, b, acts, l)
		want(t, name+": Weights", w, nil, e, code)
		s, e := cure.Solid(r, d, b, acts, l)
		want(t, name+": Solid", s, span(0, 0), e, code)
		m, e := cure.Moisture(r, d, b, acts, l)
		want(t, name+": Moisture", m, nil, e, code)
		o, e := cure.Odd(r, d, b, acts, l)
		want(t, name+": Odd", o, nil, e, code)
	}
	if code != api.ErrCureRead {
		ok, e := cure.Reaches(r, d, b, acts, limit)
		want(t, name+": Reaches", ok, false, e, code)
	}
	if code != api.ErrCureRead && code != api.ErrCureActs {
		p, e := cure.Plan(r, d, b, limit)
		want(t, name+": Plan", p, nil, e, code)
	}
}

// P6.1, P6.5, P1: each error comes before those that are named behind it.
func TestOrderOfErrors(t *testing.T) {
	noActs, noReads, noLimit := acts(5), make([]api.CureRead, 11), span(1, 0)
	for name, r := range wrongRules() {
		wantErrors(t, name, r, nil, api.CureBox{}, noActs, noReads, noLimit, api.ErrCureRule)
		wantErrors(t, name, r, days(), box(), nil, nil, span(0, 1000), api.ErrCureRule)
	}
	for name, d := range wrongDays() {
		wantErrors(t, name, rule(), d, api.CureBox{}, noActs, noReads, noLimit, api.ErrCureDays)
		wantErrors(t, name, rule(), d, box(), nil, nil, span(0, 1000), api.ErrCureDays)
	}
	for name, b := range wrongBoxes() {
		wantErrors(t, name, rule(), days(), b, noActs, noReads, noLimit, api.ErrCureBox)
		wantErrors(t, name, rule(), days(), b, nil, nil, span(0, 1000), api.ErrCureBox)
	}
	for name, a := range wrongActs() {
		wantErrors(t, name, rule(), days(), box(), a, noReads, noLimit, api.ErrCureActs)
		wantErrors(t, name, rule(), days(), box(), a, nil, span(0, 1000), api.ErrCureActs)
	}
	for name, l := range wrongReads() {
		wantErrors(t, name, rule(), days(), box(), acts(0, 1), l, span(0, 1000), api.ErrCureRead)
		// There is no truth of this box, so that the readings would clash as well.
		wantErrors(t, name, rule(), days(), api.CureBox{Weight: span(1, 1), Solid: span(2, 2)}, acts(0, 1), l, span(0, 1000), api.ErrCureRead)
	}
	for name, l := range wrongLimits() {
		wantErrors(t, name, rule(), days(), box(), acts(0, 1), nil, l, api.ErrRange)
		wantErrors(t, name, rule(), days(), api.CureBox{Weight: span(1, 1), Solid: span(2, 2)}, nil, nil, l, api.ErrRange)
	}
}

// P6.1
func TestCan(t *testing.T) {
	for name, l := range wrongActs() {
		ok, e := cure.Can(rule(), days(), l)
		want(t, name, ok, false, e, api.OK)
	}
	for _, l := range [][]int{nil, {}, {0}, {0, 1}, {0, 2}, {0, 1, 2}, {0, 1, 2, 1}, {0, 2, 2, 1}, {0, 2, 2, 2}, {0, 1, 2, 1, 2}, {0, 2, 2, 1, 2}, {0, 1, 2, 2, 2}} {
		ok, e := cure.Can(rule(), days(), l)
		if !ok || e != api.OK {
			t.Errorf("Can(%v): %v, %d", l, ok, e)
		}
	}
	dry := daysWith(2, func(d *api.CureDay) { d.Rain = false })
	ok, e := cure.Can(rule(), dry, acts(0, 1, 1))
	want(t, "without rain", ok, true, e, api.OK)
	ok, e = cure.Can(rule(), dry, acts(0, 1, 1, 1))
	want(t, "too long in the sun", ok, false, e, api.OK)
}

// P6.1: each condition of acts, at its ends.
func TestConditionsOfActs(t *testing.T) {
	one := func(change func(a *api.CureAct)) []api.CureAct { // of the act 1 of three free ones
		r := free(span(0, 0), span(0, 0), span(0, 0))
		change(&r[1])
		return r
	}
	warm := func(low int) []api.CureDay { return []api.CureDay{{Warm: span(60, 60)}, {Warm: span(low, 60)}} }
	rain := []api.CureDay{{Warm: span(60, 60)}, {Warm: span(60, 60), Rain: true}}
	for name, x := range map[string]struct {
		r    []api.CureAct
		d    []api.CureDay
		acts []int
		want bool
	}{
		"all days":              {free(span(0, 0)), fine(14), make([]int, 14), true},
		"a day more":            {free(span(0, 0)), fine(13), make([]int, 14), false},
		"first":                 {one(func(a *api.CureAct) {}), fine(1), acts(1), true},
		"not first":             {one(func(a *api.CureAct) { a.First = false }), fine(1), acts(1), false},
		"not first but second":  {one(func(a *api.CureAct) { a.First = false }), fine(2), acts(0, 1), true},
		"first only":            {one(func(a *api.CureAct) { a.Behind = 0 }), fine(2), acts(1, 0), true},
		"behind itself":         {one(func(a *api.CureAct) { a.Behind = 0 }), fine(3), acts(1, 1, 1), true},
		"behind none":           {one(func(a *api.CureAct) { a.Behind = 0 }), fine(2), acts(0, 1), false},
		"behind the other":      {one(func(a *api.CureAct) { a.Behind = 4 }), fine(2), acts(0, 1), false},
		"behind that":           {one(func(a *api.CureAct) { a.Behind = 4 }), fine(2), acts(2, 1), true},
		"it is set behind":      {one(func(a *api.CureAct) { a.Behind = 2 }), fine(2), acts(0, 1), false},
		"one before that":       {one(func(a *api.CureAct) { a.Behind = 4 }), fine(3), acts(2, 0, 1), false},
		"as warm as it must be": {one(func(a *api.CureAct) { a.Warm = 30 }), warm(30), acts(0, 1), true},
		"may be too cold":       {one(func(a *api.CureAct) { a.Warm = 30 }), warm(29), acts(0, 1), false},
		"cold for another one":  {one(func(a *api.CureAct) { a.Warm = 30 }), warm(29), acts(1, 0), true},
		"dry":                   {one(func(a *api.CureAct) { a.Dry = true }), rain, acts(1, 0), true},
		"may rain":              {one(func(a *api.CureAct) { a.Dry = true }), rain, acts(0, 1), false},
		"may be wet":            {one(func(a *api.CureAct) {}), rain, acts(0, 1), true},
		"as often as can be":    {one(func(a *api.CureAct) { a.Most = 2 }), fine(4), acts(0, 1, 1, 0), true},
		"too often":             {one(func(a *api.CureAct) { a.Most = 2 }), fine(4), acts(0, 1, 1, 1), false},
		"too often at first":    {one(func(a *api.CureAct) { a.Most = 2 }), fine(4), acts(1, 1, 1), false},
		"again after a day":     {one(func(a *api.CureAct) { a.Most = 2 }), fine(6), acts(1, 1, 2, 1, 1), true},
		"once":                  {one(func(a *api.CureAct) { a.Most = 1 }), fine(6), acts(1, 0, 1, 2, 1), true},
		"twice":                 {one(func(a *api.CureAct) { a.Most = 1 }), fine(6), acts(1, 1), false},
		"too often and behind":  {one(func(a *api.CureAct) { a.Most, a.Behind = 1, 7 }), fine(6), acts(1, 1), false},
		"others are as often":   {one(func(a *api.CureAct) { a.Most = 1 }), fine(6), acts(0, 0, 0, 1), true},
	} {
		ok, e := cure.Can(x.r, x.d, x.acts)
		want(t, name, ok, x.want, e, api.OK)
	}
}

// P6.2
func TestFollow(t *testing.T) {
	none := api.CureBox{Weight: span(100, 101), Solid: span(100, 102)}
	for name, x := range map[string]struct {
		r                  []api.CureAct
		b                  api.CureBox
		acts               []int
		t                  api.CureTruth
		weights, moistures []int
		e                  api.Errno
	}{
		"example":          {rule(), box(), acts(0, 1), truth(), acts(202, 201, 176), acts(500, 498, 427), api.OK},
		"no acts":          {rule(), box(), nil, api.CureTruth{Weight: 200, Solid: 100}, acts(200), acts(500), api.OK},
		"no acts, losses":  {rule(), box(), nil, truth(), nil, nil, api.ErrCureTruth},
		"no water":         {rule(), none, nil, api.CureTruth{Weight: 101, Solid: 101}, acts(101), acts(0), api.OK},
		"no water at last": {rule(), none, acts(0), api.CureTruth{Weight: 101, Solid: 100, Losses: acts(1)}, acts(101, 100), acts(10, 0), api.OK},
		"less than solid":  {rule(), none, nil, api.CureTruth{Weight: 101, Solid: 102}, nil, nil, api.ErrCureTruth},
		"less at last":     {rule(), none, acts(0), api.CureTruth{Weight: 101, Solid: 100, Losses: acts(2)}, nil, nil, api.ErrCureTruth},
		"least ends":       {rule(), box(), acts(0, 1, 2), api.CureTruth{Weight: 200, Solid: 100, Losses: acts(0, 20, 5)}, acts(200, 200, 180, 175), acts(500, 500, 445, 429), api.OK},
		"greatest ends":    {rule(), box(), acts(0, 1, 2), api.CureTruth{Weight: 204, Solid: 102, Losses: acts(2, 30, 8)}, acts(204, 202, 172, 164), acts(500, 496, 407, 379), api.OK},
		"almost all water": {free(span(0, 0)), api.CureBox{Weight: span(1, 1000000), Solid: span(1, 1000000)}, acts(0), api.CureTruth{Weight: 1000000, Solid: 1, Losses: acts(0)}, acts(1000000, 1000000), acts(1000, 1000), api.OK},
		"a gram":           {free(span(0, 0)), api.CureBox{Weight: span(1, 1000000), Solid: span(1, 1000000)}, nil, api.CureTruth{Weight: 1, Solid: 1}, acts(1), acts(0), api.OK},
		"a gram of water":  {free(span(0, 0)), api.CureBox{Weight: span(1, 1000000), Solid: span(1, 1000000)}, nil, api.CureTruth{Weight: 1000000, Solid: 999999}, acts(1000000), acts(1), api.OK},
		"a loss for a day": {free(span(0, 3)), box(), acts(0, 0, 0), api.CureTruth{Weight: 200, Solid: 100, Losses: acts(3, 0, 1)}, acts(200, 197, 197, 196), acts(500, 493, 493, 490), api.OK},
		"much lost":        {free(span(10000, 10000)), api.CureBox{Weight: span(140001, 140001), Solid: span(1, 2)}, make([]int, 14), api.CureTruth{Weight: 140001, Solid: 1, Losses: slices.Repeat(acts(10000), 14)}, acts(140001, 130001, 120001, 110001, 100001, 90001, 80001, 70001, 60001, 50001, 40001, 30001, 20001, 10001, 1), append(slices.Repeat(acts(1000), 14), 0), api.OK},
		"too much lost":    {free(span(10000, 10000)), api.CureBox{Weight: span(140001, 140001), Solid: span(1, 2)}, make([]int, 14), api.CureTruth{Weight: 140001, Solid: 2, Losses: slices.Repeat(acts(10000), 14)}, nil, nil, api.ErrCureTruth},
	} {
		w, m, e := cure.Follow(x.r, fine(14), x.b, x.acts, x.t)
		want(t, name+": weights", w, x.weights, e, x.e)
		want(t, name+": moistures", m, x.moistures, e, x.e)
	}
	for name, wrong := range map[string]api.CureTruth{
		"zero":             {},
		"too light":        truthWith(func(t *api.CureTruth) { t.Weight = 199 }),
		"too heavy":        truthWith(func(t *api.CureTruth) { t.Weight = 205 }),
		"lowest weight":    truthWith(func(t *api.CureTruth) { t.Weight = lowest }),
		"highest weight":   truthWith(func(t *api.CureTruth) { t.Weight = highest }),
		"too little solid": truthWith(func(t *api.CureTruth) { t.Solid = 99 }),
		"too much solid":   truthWith(func(t *api.CureTruth) { t.Solid = 103 }),
		"lowest solid":     truthWith(func(t *api.CureTruth) { t.Solid = lowest }),
		"highest solid":    truthWith(func(t *api.CureTruth) { t.Solid = highest }),
		"no losses":        truthWith(func(t *api.CureTruth) { t.Losses = nil }),
		"a loss too few":   truthWith(func(t *api.CureTruth) { t.Losses = acts(1) }),
		"a loss too many":  truthWith(func(t *api.CureTruth) { t.Losses = acts(1, 25, 5) }),
		"loss -1":          truthWith(func(t *api.CureTruth) { t.Losses[0] = -1 }),
		"loss 3":           truthWith(func(t *api.CureTruth) { t.Losses[0] = 3 }),
		"loss 19":          truthWith(func(t *api.CureTruth) { t.Losses[1] = 19 }),
		"loss 31":          truthWith(func(t *api.CureTruth) { t.Losses[1] = 31 }),
		"losses turned":    truthWith(func(t *api.CureTruth) { t.Losses = acts(25, 1) }),
		"lowest loss":      truthWith(func(t *api.CureTruth) { t.Losses[1] = lowest }),
		"highest loss":     truthWith(func(t *api.CureTruth) { t.Losses[1] = highest }),
	} {
		w, m, e := cure.Follow(rule(), days(), box(), acts(0, 1), wrong)
		want(t, name, w, nil, e, api.ErrCureTruth)
		want(t, name, m, nil, e, api.ErrCureTruth)
	}
}

func spans(ends ...int) []api.Span {
	var l []api.Span
	for i := 0; i < len(ends); i += 2 {
		l = append(l, span(ends[i], ends[i+1]))
	}
	return l
}

// P6.3
func TestWhatIsKnown(t *testing.T) {
	even := api.CureBox{Weight: span(10, 20), Solid: span(5, 30)}
	heavy := api.CureBox{Weight: span(1, 1000000), Solid: span(1, 1000000)}
	for name, x := range map[string]struct {
		r         []api.CureAct
		b         api.CureBox
		acts      []int
		l         []api.CureRead
		weights   []api.Span
		solid     api.Span
		moistures []api.Span
	}{
		"no readings":      {rule(), box(), acts(0, 1, 2), nil, spans(200, 204, 198, 204, 168, 184, 160, 179), span(100, 102), spans(490, 510, 485, 510, 393, 457, 363, 442)},
		"example":          {rule(), box(), acts(0, 1, 2), reads(read(2, 180, 2)), spans(200, 204, 198, 204, 178, 182, 170, 177), span(100, 102), spans(490, 510, 485, 510, 427, 451, 400, 436)},
		"no acts":          {rule(), box(), nil, nil, spans(200, 204), span(100, 102), spans(490, 510)},
		"the first day":    {rule(), box(), acts(0, 1, 2), reads(read(0, 200, 0)), spans(200, 200, 198, 200, 168, 180, 160, 175), span(100, 102), spans(490, 500, 485, 500, 393, 445, 363, 429)},
		"the last day":     {rule(), box(), acts(0, 1, 2), reads(read(3, 177, 0)), spans(202, 204, 202, 204, 182, 184, 177, 177), span(100, 102), spans(496, 510, 496, 510, 440, 457, 424, 436)},
		"a day twice":      {rule(), box(), acts(0), reads(read(1, 199, 1), read(1, 201, 1)), spans(200, 202, 200, 200), span(100, 102), spans(490, 505, 490, 500)},
		"not too light":    {rule(), box(), acts(0), reads(read(0, 150, 50)), spans(200, 200, 198, 200), span(100, 102), spans(490, 500, 485, 500)},
		"reading of 0":     {free(span(0, 1)), api.CureBox{Weight: span(1, 5), Solid: span(1, 5)}, acts(0), reads(read(1, 0, 1)), spans(1, 2, 1, 1), span(1, 1), spans(0, 500, 0, 0)},
		"heaviest":         {free(span(0, 10000)), heavy, acts(0), reads(read(1, 1010000, 10000)), spans(1000000, 1000000, 1000000, 1000000), span(1, 1000000), spans(0, 1000, 0, 1000)},
		"solid in weight":  {free(span(2, 3)), even, acts(0), nil, spans(10, 20, 7, 18), span(5, 18), spans(100, 750, 0, 723)},
		"weight of solid":  {free(span(2, 3)), api.CureBox{Weight: span(10, 20), Solid: span(15, 30)}, acts(0), nil, spans(17, 20, 15, 18), span(15, 18), spans(100, 250, 0, 167)},
		"solid by reading": {free(span(2, 3)), even, acts(0, 0), reads(read(1, 9, 1)), spans(10, 13, 8, 10, 5, 8), span(5, 8), spans(334, 616, 200, 500, 0, 375)},
		"all of it":        {free(span(10000, 10000)), heavy, make([]int, 14), nil, widest(), span(1, 860000), wettest()},
	} {
		w, e := cure.Weights(x.r, fine(14), x.b, x.acts, x.l)
		want(t, name+": Weights", w, x.weights, e, api.OK)
		s, e := cure.Solid(x.r, fine(14), x.b, x.acts, x.l)
		want(t, name+": Solid", s, x.solid, e, api.OK)
		m, e := cure.Moisture(x.r, fine(14), x.b, x.acts, x.l)
		want(t, name+": Moisture", m, x.moistures, e, api.OK)
		o, e := cure.Odd(x.r, fine(14), x.b, x.acts, x.l)
		want(t, name+": Odd", o, nil, e, api.OK)
	}
}

// widest are the weights of any box that loses 10000 grams on each of 14 days.
func widest() []api.Span {
	var l []api.Span
	for day := range 15 {
		l = append(l, span(140001-10000*day, 1000000-10000*day))
	}
	return l
}

// wettest are its moistures: the driest box loses all water, of 860000 grams and more if it can.
func wettest() []api.Span {
	var l []api.Span
	for day := range 15 {
		lost := 140000 - 10000*day
		l = append(l, span((1000*lost+860000+lost-1)/(860000+lost), 1000))
	}
	return l
}

// P6.3, P6.4
func TestClashes(t *testing.T) {
	wet := api.CureBox{Weight: span(100, 101), Solid: span(102, 103)}
	for name, x := range map[string]struct {
		b    api.CureBox
		acts []int
		l    []api.CureRead
		odd  []int
		e    api.Errno
	}{
		"example":              {box(), acts(0, 1, 2), reads(read(2, 180, 2), read(2, 170, 2)), acts(0), api.OK},
		"too heavy":            {box(), acts(0), reads(read(0, 207, 2)), acts(0), api.OK},
		"too light":            {box(), acts(0), reads(read(0, 197, 2)), acts(0), api.OK},
		"loses too much":       {box(), acts(0), reads(read(0, 203, 0), read(1, 200, 0)), acts(0), api.OK},
		"gains":                {box(), acts(0), reads(read(0, 202, 0), read(1, 203, 0)), acts(0), api.OK},
		"over two days":        {box(), acts(0, 1), reads(read(0, 204, 0), read(2, 171, 0)), acts(0), api.OK},
		"drier than solid":     {box(), acts(0, 1, 1), reads(read(3, 99, 0)), acts(0), api.OK},
		"the second one":       {box(), acts(0, 1), reads(read(0, 202, 2), read(1, 190, 2), read(2, 170, 2)), acts(1), api.OK},
		"the last one":         {box(), acts(0, 1), reads(read(0, 202, 2), read(1, 200, 2), read(2, 190, 2)), acts(2), api.OK},
		"two to one":           {box(), acts(0), reads(read(0, 200, 0), read(0, 201, 0), read(0, 201, 0)), acts(0), api.OK},
		"one to two":           {box(), acts(0), reads(read(0, 201, 0), read(0, 201, 0), read(0, 200, 0)), acts(2), api.OK},
		"two to two":           {box(), acts(0), reads(read(0, 200, 0), read(0, 201, 0), read(0, 201, 0), read(0, 200, 0)), acts(0, 3), api.OK},
		"the first two":        {box(), acts(0), reads(read(0, 201, 0), read(0, 200, 0), read(0, 203, 0)), acts(0, 1), api.OK},
		"first and last":       {box(), acts(0), reads(read(0, 300, 0), read(0, 200, 0), read(0, 300, 0)), acts(0, 2), api.OK},
		"one of each day":      {box(), acts(0), reads(read(0, 201, 0), read(1, 201, 0), read(1, 200, 0), read(0, 203, 0)), acts(0, 2), api.OK},
		"all of ten":           {box(), acts(0), slices.Repeat(reads(read(1, 0, 197)), 10), acts(0, 1, 2, 3, 4, 5, 6, 7, 8, 9), api.OK},
		"all but one of ten":   {box(), acts(0), append(slices.Repeat(reads(read(1, 0, 197)), 9), read(0, 204, 0)), acts(0, 1, 2, 3, 4, 5, 6, 7, 8), api.OK},
		"no truth":             {wet, acts(0), nil, nil, api.ErrCureClash},
		"no truth, no acts":    {wet, nil, nil, nil, api.ErrCureClash},
		"no truth, readings":   {wet, nil, reads(read(0, 100, 0), read(0, 101, 0)), nil, api.ErrCureClash},
		"no truth of the last": {api.CureBox{Weight: span(100, 120), Solid: span(101, 102)}, acts(0, 1), nil, nil, api.ErrCureClash},
	} {
		w, e := cure.Weights(rule(), fine(5), x.b, x.acts, x.l)
		want(t, name+": Weights", w, nil, e, api.ErrCureClash)
		s, e := cure.Solid(rule(), fine(5), x.b, x.acts, x.l)
		want(t, name+": Solid", s, span(0, 0), e, api.ErrCureClash)
		m, e := cure.Moisture(rule(), fine(5), x.b, x.acts, x.l)
		want(t, name+": Moisture", m, nil, e, api.ErrCureClash)
		o, e := cure.Odd(rule(), fine(5), x.b, x.acts, x.l)
		want(t, name+": Odd", o, x.odd, e, x.e)
	}
}

// P6.5
func TestReaches(t *testing.T) {
	lost := api.CureBox{Weight: span(100, 120), Solid: span(101, 102)}
	for name, x := range map[string]struct {
		b     api.CureBox
		acts  []int
		limit api.Span
		want  bool
	}{
		"not dry enough":    {box(), acts(0, 1, 2), span(370, 450), false},
		"example":           {box(), acts(0, 1, 2), span(350, 450), true},
		"just":              {box(), acts(0, 1, 2), span(363, 442), true},
		"too moist":         {box(), acts(0, 1, 2), span(363, 441), false},
		"too dry":           {box(), acts(0, 1, 2), span(364, 442), false},
		"no acts":           {box(), nil, span(490, 510), true},
		"no acts, too dry":  {box(), nil, span(491, 510), false},
		"no acts, too wet":  {box(), nil, span(490, 509), false},
		"anything":          {box(), acts(0), span(0, 1000), true},
		"no truth":          {lost, acts(0, 1), span(0, 1000), false},
		"no truth at first": {api.CureBox{Weight: span(100, 101), Solid: span(102, 103)}, nil, span(0, 1000), false},
		"a truth before it": {lost, acts(0), span(0, 1000), true},
		"one truth":         {api.CureBox{Weight: span(100, 121), Solid: span(101, 102)}, acts(0, 1), span(0, 0), true},
		"no water":          {api.CureBox{Weight: span(1, 1), Solid: span(1, 1)}, nil, span(0, 0), true},
		"but water":         {api.CureBox{Weight: span(1000000, 1000000), Solid: span(1, 1)}, nil, span(1000, 1000), true},
	} {
		ok, e := cure.Reaches(rule(), days(), x.b, x.acts, x.limit)
		want(t, name, ok, x.want, e, api.OK)
	}
}

// P6.5
func TestPlan(t *testing.T) {
	whole := api.CureBox{Weight: span(200, 200), Solid: span(100, 100)}
	even := free(span(10, 10), span(20, 20), span(20, 20), span(10, 10))
	for name, x := range map[string]struct {
		r     []api.CureAct
		d     []api.CureDay
		b     api.CureBox
		limit api.Span
		want  []int
		e     api.Errno
	}{
		"not dry enough":    {rule(), days(), box(), span(370, 450), nil, api.ErrNone},
		"example":           {rule(), days(), box(), span(350, 450), acts(0, 1, 2), api.OK},
		"too dry":           {rule(), days(), box(), span(0, 300), nil, api.ErrNone},
		"nothing to do":     {rule(), days(), box(), span(490, 510), nil, api.OK},
		"anything":          {rule(), days(), box(), span(0, 1000), nil, api.OK},
		"no truth":          {rule(), days(), api.CureBox{Weight: span(100, 101), Solid: span(102, 103)}, span(0, 1000), nil, api.ErrNone},
		"fewest":            {even, fine(14), whole, span(444, 445), acts(1), api.OK},
		"first of two":      {even, fine(14), whole, span(411, 412), acts(0, 1), api.OK},
		"first of all":      {even, fine(14), whole, span(333, 334), acts(0, 1, 1), api.OK},
		"as dry as it gets": {even, fine(14), whole, span(0, 0), acts(1, 1, 1, 1, 1), api.OK},
		"no days for it":    {even, fine(4), whole, span(0, 0), nil, api.ErrNone},
		"just the days":     {even, fine(5), whole, span(0, 0), acts(1, 1, 1, 1, 1), api.OK},
		"all days":          {free(span(1, 1)), fine(14), api.CureBox{Weight: span(15, 15), Solid: span(1, 1)}, span(0, 0), make([]int, 14), api.OK},
		"a day too few":     {free(span(1, 1)), fine(13), api.CureBox{Weight: span(15, 15), Solid: span(1, 1)}, span(0, 0), nil, api.ErrNone},
		"first of many":     {free(span(1, 1), span(1, 1), span(1, 1), span(1, 1), span(1, 1)), fine(14), api.CureBox{Weight: span(15, 15), Solid: span(1, 1)}, span(0, 0), make([]int, 14), api.OK},
		"nothing can be":    {ruleWith(0, func(a *api.CureAct) { a.First = false }), days(), box(), span(0, 450), nil, api.ErrNone},
		"nothing first":     {ruleWith(0, func(a *api.CureAct) { a.First = false }), days(), box(), span(490, 510), nil, api.OK},
		"sun on the day 3":  {rule(), daysWith(1, func(d *api.CureDay) { d.Rain = true }), box(), span(300, 430), acts(0, 2, 2, 1), api.OK},
	} {
		l, e := cure.Plan(x.r, x.d, x.b, x.limit)
		want(t, name, l, x.want, e, x.e)
	}
}

// P6.5: weather decides what comes first, and when.
func TestPlanInWeather(t *testing.T) {
	r := []api.CureAct{
		{Behind: 2, First: true, Most: 2, Loss: span(1, 1)},
		{Warm: 30, Behind: 1, Dry: true, Most: 1, Loss: span(10, 10)},
	}
	d := make([]api.CureDay, 10)
	for day := range d {
		d[day] = api.CureDay{Warm: span(30, 40), Rain: day%3 != 1}
	}
	b := api.CureBox{Weight: span(135, 135), Solid: span(100, 100)}
	// The sun shines on the days 1, 4 and 7; on the others there is nothing to do but the act 0, two days long.
	l, e := cure.Plan(r, d, b, span(0, 10))
	want(t, "sun", l, acts(0, 1, 0, 0, 1, 0, 0, 1), e, api.OK)
	d[7].Warm.Low = 29
	l, e = cure.Plan(r, d, b, span(0, 10))
	want(t, "a cold day", l, nil, e, api.ErrNone)
}

// P6.6, P2: arguments stay as they are, and a result that is changed changes no other one.
func TestMemory(t *testing.T) {
	r, d, b := rule(), days(), box()
	a, l, x := acts(0, 1, 2), reads(read(2, 180, 2), read(2, 170, 2)), truth()
	// What lies behind a list is not the functions' either.
	r, d, a, l, x.Losses = behind(r), behind(d), behind(a), behind(l), behind(x.Losses)
	for name, call := range map[string]func() any{
		"Can":    func() any { ok, _ := cure.Can(r, d, a); return ok },
		"Follow": func() any { w, m, _ := cure.Follow(r, d, b, a[:2], x); return [2][]int{used(w), used(m)} },
		"Weights": func() any {
			w, _ := cure.Weights(r, d, b, a, l[:1])
			return used(w)
		},
		"Solid": func() any { s, _ := cure.Solid(r, d, b, a, l[:1]); return s },
		"Moisture": func() any {
			m, _ := cure.Moisture(r, d, b, a, l[:1])
			return used(m)
		},
		"Odd":     func() any { o, _ := cure.Odd(r, d, b, a, l); return used(o) },
		"Reaches": func() any { ok, _ := cure.Reaches(r, d, b, a, span(350, 450)); return ok },
		"Plan":    func() any { p, _ := cure.Plan(r, d, b, span(350, 450)); return used(p) },
	} {
		first := call()
		if again := call(); !reflect.DeepEqual(first, again) {
			t.Errorf("%s: %v, and then %v", name, first, again)
		}
	}
	cure.Check(r, d)
	if !slices.Equal(r, rule()) || !slices.Equal(d, days()) || b != box() || !slices.Equal(a, acts(0, 1, 2)) || !slices.Equal(l, reads(read(2, 180, 2), read(2, 170, 2))) || !reflect.DeepEqual(x, truth()) {
		t.Errorf("arguments changed: %v, %v, %v, %v, %v, %v", r, d, b, a, l, x)
	}
	if !isBehind(r) || !isBehind(d) || !isBehind(a) || !isBehind(l) || !isBehind(x.Losses) {
		t.Errorf("something was written behind an argument")
	}
}

// behind is a list with room behind it, in which lies its first element.
func behind[T any](l []T) []T {
	return append(append(make([]T, 0, len(l)+8), l...), l[0])[:len(l)]
}

// isBehind reports whether what behind has laid there is there still.
func isBehind[T comparable](l []T) bool { return l[:len(l)+1][len(l)] == l[0] }

// used returns what was in a list, which is then changed.
func used[T any](l []T) []T {
	kept := slices.Clone(l)
	_ = append(l, *new(T))
	clear(l)
	return kept
}

// P6.6: nothing of an argument is kept, so that it can be changed after the call.
func TestNothingIsRetained(t *testing.T) {
	r, d, a, l, x := rule(), days(), acts(0, 1), reads(read(2, 180, 2)), truth()
	w, m, _ := cure.Follow(r, d, box(), a, x)
	s, _ := cure.Weights(r, d, box(), a, l)
	p, _ := cure.Plan(r, d, box(), span(350, 450))
	kept := []any{slices.Clone(w), slices.Clone(m), slices.Clone(s), slices.Clone(p)}
	clear(r)
	clear(d)
	clear(a)
	clear(l)
	clear(x.Losses)
	if now := []any{w, m, s, p}; !reflect.DeepEqual(now, kept) {
		t.Errorf("results changed from %v to %v", kept, now)
	}
	p, e := cure.Plan(free(span(40, 40)), fine(2), box(), span(350, 450))
	want(t, "Plan after a change", p, acts(0), e, api.OK)
}

// P1: no function panics, whatever the arguments are.
func TestAnyArguments(t *testing.T) {
	r := rand.New(rand.NewPCG(6, 60))
	n := func() int {
		return []int{lowest, -1, 0, 1, 2, 3, 5, 7, 14, 60, 100, 180, 200, 1000, 1010000, highest}[r.IntN(16)]
	}
	s := func() api.Span { return span(n(), n()) }
	for range 5000 {
		g, d, b, a, l, x := rule(), days(), box(), acts(0, 1), reads(read(2, 180, 2)), truth()
		switch r.IntN(6) {
		case 0:
			g[r.IntN(3)] = api.CureAct{Warm: n(), Behind: n(), Dry: r.IntN(2) == 0, First: r.IntN(2) == 0, Most: n(), Loss: s()}
		case 1:
			d[r.IntN(5)].Warm = s()
		case 2:
			b = api.CureBox{Weight: s(), Solid: s()}
		case 3:
			a[r.IntN(2)] = n()
		case 4:
			l[0] = read(n(), n(), n())
		case 5:
			x = api.CureTruth{Weight: n(), Solid: n(), Losses: acts(n(), n())}
		}
		limit := s()
		cure.Check(g, d)
		cure.Can(g, d, a)
		cure.Follow(g, d, b, a, x)
		cure.Weights(g, d, b, a, l)
		cure.Solid(g, d, b, a, l)
		cure.Moisture(g, d, b, a, l)
		cure.Odd(g, d, b, a, l)
		cure.Reaches(g, d, b, a, limit)
		cure.Plan(g, d, b, limit)
	}
}
