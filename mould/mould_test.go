package mould_test

import (
	"math/rand/v2"
	"reflect"
	"slices"
	"testing"

	"rostellum/api"
	"rostellum/mould"
)

const lowest, highest = -1 << 63, 1<<63 - 1

// run is that of the document's examples.
func run() api.MouldRun {
	return api.MouldRun{Pods: 4, Boxes: 3, Few: 1, Delay: 1, Where: days([]int{0, 0, 1, 2}, []int{0, 1, 1, 2}), Near: near(1, 2)}
}

// runWith is the run of the examples, changed.
func runWith(change func(r *api.MouldRun)) api.MouldRun {
	r := run()
	change(&r)
	return r
}

// truth is the last one of the document's examples.
func truth() api.MouldTruth { return leaking(4, 0, 1) }

func days(l ...[]int) [][]int { return l }

func near(ends ...int) []api.BoxPair {
	var l []api.BoxPair
	for i := 0; i < len(ends); i += 2 {
		l = append(l, api.BoxPair{A: ends[i], B: ends[i+1]})
	}
	return l
}

// leaking is a truth with such a first set, and such pairs on each day.
func leaking(first int, leaks ...int) api.MouldTruth {
	return api.MouldTruth{First: first, Leaks: leaks}
}

func sniffs(l ...api.Sniff) []api.Sniff { return l }

func smelt(time, pod int) api.Sniff { return api.Sniff{Time: time, Pod: pod, Smells: true} }

func notSmelt(time, pod int) api.Sniff { return api.Sniff{Time: time, Pod: pod} }

func list(l ...int) []int { return l }

// still is a run of so many days on which no pod is moved.
func still(few, delay, many int, where ...int) api.MouldRun {
	return api.MouldRun{Pods: len(where), Boxes: 5, Few: few, Delay: delay, Where: slices.Repeat(days(where), many)}
}

// largest is a run in which everything is as great as can be.
func largest() api.MouldRun {
	r := still(8, 10, 10, 0, 1, 2, 3, 4, 0, 1, 2)
	for day := range r.Where {
		r.Where[day] = slices.Concat(r.Where[day][day%8:], r.Where[day][:day%8])
	}
	r.Near = near(0, 1, 1, 2, 2, 3, 3, 4)
	return r
}

// want compares a result; a nil list and an empty one are the same.
func want[T any](t *testing.T, name string, got, wanted T, e, code api.Errno) {
	t.Helper()
	if e != code {
		t.Errorf("%s: error %d instead of %d", name, e, code)
	}
	if v := reflect.ValueOf(got); v.Kind() == reflect.Slice && v.Len() == 0 && reflect.ValueOf(wanted).Len() == 0 {
		return
	}
	if !reflect.DeepEqual(got, wanted) {
		t.Errorf("%s: %v instead of %v", name, got, wanted)
	}
}

// wantCan wants which pods can have mould at a time, and which surely have.
func wantCan(t *testing.T, name string, r api.MouldRun, l []api.Sniff, time, can, sure int, code api.Errno) {
	t.Helper()
	c, s, e := mould.Can(r, l, time)
	want(t, name+": Can", [2]int{c, s}, [2]int{can, sure}, e, code)
}

// wantNext wants which pod should be sniffed.
func wantNext(t *testing.T, name string, r api.MouldRun, l []api.Sniff, pod, worst int, code api.Errno) {
	t.Helper()
	p, w, e := mould.Next(r, l)
	want(t, name+": Next", [2]int{p, w}, [2]int{pod, worst}, e, code)
}

// wantShip wants which boxes can be shipped.
func wantShip(t *testing.T, name string, r api.MouldRun, l []api.Sniff, boxes []int, code api.Errno) {
	t.Helper()
	b, e := mould.Ship(r, l)
	want(t, name+": Ship", b, boxes, e, code)
}

func wrongRuns() map[string]api.MouldRun {
	wrong := map[string]api.MouldRun{
		"zero":          {},
		"no pods":       {Boxes: 1, Where: days(nil)},
		"9 pods":        still(1, 1, 1, make([]int, 9)...),
		"no day":        runWith(func(r *api.MouldRun) { r.Where = nil }),
		"11 days":       still(1, 1, 11, 0, 0),
		"an empty day":  runWith(func(r *api.MouldRun) { r.Where[1] = nil }),
		"a pod too few": runWith(func(r *api.MouldRun) { r.Where[0] = list(0, 0, 1) }),
		"too many":      runWith(func(r *api.MouldRun) { r.Where[1] = list(0, 1, 1, 2, 2) }),
		"5 pairs":       runWith(func(r *api.MouldRun) { r.Boxes, r.Near = 5, near(0, 1, 0, 2, 0, 3, 0, 4, 1, 2) }),
		"turned pair":   runWith(func(r *api.MouldRun) { r.Near = near(0, 1, 2, 1) }),
		"one box":       runWith(func(r *api.MouldRun) { r.Near = near(1, 1) }),
		"from box -1":   runWith(func(r *api.MouldRun) { r.Near = near(-1, 1) }),
		"to box 3":      runWith(func(r *api.MouldRun) { r.Near = near(1, 3) }),
		"far pair":      runWith(func(r *api.MouldRun) { r.Near = near(lowest, highest) }),
		"far turned":    runWith(func(r *api.MouldRun) { r.Near = near(highest, lowest) }),
		"pair twice":    runWith(func(r *api.MouldRun) { r.Near = near(0, 1, 1, 2, 0, 1) }),
		"of one box":    {Pods: 1, Boxes: 1, Where: days(list(0)), Near: near(0, 1)},
	}
	for name, n := range map[string][4]int{"lowest": {lowest, lowest, lowest, lowest}, "-1": {-1, -1, -1, -1}, "too few": {3, 0, -1, -1}, "too many": {5, 6, 5, 11}, "9": {9, 9, 9, 12}, "highest": {highest, highest, highest, highest}} {
		wrong[name+" pods"] = runWith(func(r *api.MouldRun) { r.Pods = n[0] })
		wrong[name+" boxes"] = runWith(func(r *api.MouldRun) { r.Boxes = n[1] })
		wrong[name+" of few"] = runWith(func(r *api.MouldRun) { r.Few = n[2] })
		wrong[name+" of delay"] = runWith(func(r *api.MouldRun) { r.Delay = n[3] })
	}
	for name, box := range map[string]int{"box -1": -1, "box 3": 3, "lowest box": lowest, "highest box": highest} {
		wrong[name+" on the day 0"] = runWith(func(r *api.MouldRun) { r.Where[0][0] = box })
		wrong[name+" on the day 1"] = runWith(func(r *api.MouldRun) { r.Where[1][3] = box })
	}
	return wrong
}

func goodRuns() map[string]api.MouldRun {
	return map[string]api.MouldRun{
		"example":       run(),
		"least":         {Pods: 1, Boxes: 1, Where: days(list(0))},
		"largest":       largest(),
		"no pairs":      runWith(func(r *api.MouldRun) { r.Near = nil }),
		"all pods":      runWith(func(r *api.MouldRun) { r.Few = 4 }),
		"no mould":      runWith(func(r *api.MouldRun) { r.Few = 0 }),
		"no delay":      runWith(func(r *api.MouldRun) { r.Delay = 0 }),
		"longest delay": runWith(func(r *api.MouldRun) { r.Delay = 10 }),
		"empty boxes":   runWith(func(r *api.MouldRun) { r.Boxes, r.Near = 5, near(3, 4, 0, 4, 0, 3, 2, 4) }),
	}
}

func wrongTruths() map[string]api.MouldTruth {
	return map[string]api.MouldTruth{
		"zero":            {},
		"first -1":        leaking(-1, 0, 0),
		"first 16":        leaking(16, 0, 0),
		"lowest first":    leaking(lowest, 0, 0),
		"highest first":   leaking(highest, 0, 0),
		"too many first":  leaking(3, 0, 0),
		"all first":       leaking(15, 0, 0),
		"no leaks":        leaking(1),
		"a day too few":   leaking(1, 0),
		"a day too many":  leaking(1, 0, 0, 0),
		"leak -1":         leaking(1, 0, -1),
		"leak 2":          leaking(1, 2, 0),
		"lowest leak":     leaking(1, lowest, 0),
		"highest leak":    leaking(1, 0, highest),
		"leak of no pair": leaking(1, 1, 3),
	}
}

func wrongSniffs() map[string][]api.Sniff {
	return map[string][]api.Sniff{
		"25":           make([]api.Sniff, 25),
		"time -1":      sniffs(notSmelt(-1, 0)),
		"time 3":       sniffs(notSmelt(1, 0), notSmelt(3, 0)),
		"lowest time":  sniffs(smelt(lowest, 0)),
		"highest time": sniffs(smelt(highest, 0)),
		"pod -1":       sniffs(smelt(1, -1)),
		"pod 4":        sniffs(notSmelt(1, 0), smelt(1, 4)),
		"lowest pod":   sniffs(smelt(1, lowest)),
		"highest pod":  sniffs(smelt(1, highest)),
		"last of many": append(make([]api.Sniff, 23), smelt(0, 8)),
		"a clash too":  sniffs(smelt(0, 0), notSmelt(2, 4)),
	}
}

// P7.1
func TestCheck(t *testing.T) {
	for name, r := range wrongRuns() {
		want(t, name, mould.Check(r), api.ErrMould, 0, 0)
	}
	for name, r := range goodRuns() {
		want(t, name, mould.Check(r), api.OK, 0, 0)
	}
}

// P7.1 to P7.5, P1: each error comes before those that are named behind it, and with none of them there is a result.
func TestOrderOfErrors(t *testing.T) {
	noSniffs, clash := make([]api.Sniff, 25), sniffs(smelt(0, 0))
	all := func(name string, r api.MouldRun, l []api.Sniff, code api.Errno) {
		t.Helper()
		for _, time := range list(lowest, -1, 0, 2, 3, highest) {
			wantCan(t, name, r, l, time, 0, 0, code)
		}
		wantShip(t, name, r, l, nil, code)
		wantNext(t, name, r, l, 0, 0, code)
	}
	for name, r := range wrongRuns() {
		for _, l := range [][]api.Sniff{nil, noSniffs, clash} {
			for _, x := range []api.MouldTruth{leaking(1, 0, 0), leaking(-1)} {
				p, e := mould.Play(r, x)
				want(t, name+": Play", p, nil, e, api.ErrMould)
				ok, e := mould.Agrees(r, x, l)
				want(t, name+": Agrees", ok, false, e, api.ErrMould)
			}
			all(name, r, l, api.ErrMould)
		}
	}
	for name, x := range wrongTruths() {
		p, e := mould.Play(run(), x)
		want(t, name+": Play", p, nil, e, api.ErrMouldTruth)
		for _, l := range [][]api.Sniff{nil, noSniffs} {
			ok, e := mould.Agrees(run(), x, l)
			want(t, name+": Agrees", ok, false, e, api.ErrMouldTruth)
		}
	}
	for name, l := range wrongSniffs() {
		ok, e := mould.Agrees(run(), truth(), l)
		want(t, name+": Agrees", ok, false, e, api.ErrMouldSniff)
		all(name, run(), l, api.ErrMouldSniff)
	}
	for _, time := range list(lowest, -1, 3, 10, highest) {
		wantCan(t, "no time", run(), nil, time, 0, 0, api.ErrMouldDay)
		wantCan(t, "no time, and a clash", run(), clash, time, 0, 0, api.ErrMouldDay)
	}
}

// P7.2
func TestPlay(t *testing.T) {
	chain := still(5, 0, 3, 0, 1, 2, 3, 4)
	chain.Near = near(0, 1, 1, 2, 2, 3, 3, 4)
	empty := still(1, 0, 2, 0, 2)
	empty.Near = near(0, 1, 1, 2)
	ended := runWith(func(r *api.MouldRun) { r.Where = days(list(0, 1, 2, 2), list(1, 1, 0, 0), list(0, 2, 2, 1)) })
	for name, x := range map[string]struct {
		r    api.MouldRun
		t    api.MouldTruth
		want []int
	}{
		"first of all":            {run(), leaking(1, 0, 0), list(1, 3, 7)},
		"the second one":          {run(), leaking(2, 0, 0), list(2, 3, 7)},
		"over the pair":           {run(), truth(), list(4, 4, 14)},
		"over the pair at once":   {run(), leaking(4, 1, 0), list(4, 12, 14)},
		"over it to the lower":    {run(), leaking(8, 1, 0), list(8, 12, 14)},
		"over it twice":           {run(), leaking(8, 1, 1), list(8, 12, 14)},
		"from no mould near":      {run(), leaking(1, 1, 0), list(1, 3, 7)},
		"got it in the box first": {run(), leaking(1, 0, 1), list(1, 3, 15)},
		"no mould":                {run(), leaking(0, 1, 1), list(0, 0, 0)},
		"alone":                   {run(), leaking(8, 0, 0), list(8, 8, 8)},
		"all at once":             {chain, leaking(1, 15, 15, 15), list(1, 3, 7, 15)},
		"all turned":              {chain, leaking(16, 15, 15, 15), list(16, 24, 28, 30)},
		"from the middle":         {chain, leaking(4, 15, 0, 8), list(4, 14, 14, 30)},
		"one pair a day":          {chain, leaking(1, 2, 1, 2), list(1, 1, 3, 7)},
		"from two":                {chain, leaking(17, 9, 0, 6), list(17, 27, 27, 31)},
		"all":                     {chain, leaking(31, 0, 0, 0), list(31, 31, 31, 31)},
		"over an empty box":       {empty, leaking(1, 3, 3), list(1, 1, 1)},
		"where it was":            {ended, leaking(1, 0, 0, 0), list(1, 1, 3, 7)},
		"where it is":             {ended, leaking(4, 0, 0, 0), list(4, 12, 12, 14)},
		"one pod":                 {api.MouldRun{Pods: 1, Boxes: 1, Few: 1, Where: days(list(0))}, leaking(1, 0), list(1, 1)},
	} {
		p, e := mould.Play(x.r, x.t)
		want(t, name, p, x.want, e, api.OK)
	}
}

// P7.2
func TestAgrees(t *testing.T) {
	late := func(delay int) api.MouldRun { return runWith(func(r *api.MouldRun) { r.Delay = delay }) }
	for name, x := range map[string]struct {
		r    api.MouldRun
		t    api.MouldTruth
		l    []api.Sniff
		want bool
	}{
		"smells":              {run(), truth(), sniffs(smelt(1, 2)), true},
		"does not yet":        {run(), truth(), sniffs(smelt(2, 3)), false},
		"both":                {run(), truth(), sniffs(smelt(1, 2), smelt(2, 3)), false},
		"turned":              {run(), truth(), sniffs(smelt(2, 3), smelt(1, 2)), false},
		"no sniffs":           {run(), truth(), nil, true},
		"not smelt":           {run(), truth(), sniffs(notSmelt(2, 3)), true},
		"not smelt but so":    {run(), truth(), sniffs(notSmelt(1, 2)), false},
		"before the delay":    {run(), truth(), sniffs(smelt(0, 2)), false},
		"nothing before it":   {run(), truth(), sniffs(notSmelt(0, 2)), true},
		"other pods":          {run(), truth(), sniffs(notSmelt(1, 0), notSmelt(1, 1), notSmelt(1, 3), smelt(1, 2)), true},
		"no delay":            {late(0), truth(), sniffs(smelt(0, 2), smelt(1, 2), notSmelt(1, 3), smelt(2, 1), smelt(2, 3), notSmelt(2, 0)), true},
		"no delay, not yet":   {late(0), truth(), sniffs(smelt(1, 1)), false},
		"two days":            {late(2), truth(), sniffs(notSmelt(0, 2), notSmelt(1, 2), smelt(2, 2), notSmelt(2, 1)), true},
		"two days, too early": {late(2), truth(), sniffs(smelt(1, 2)), false},
		"ten days":            {late(10), truth(), sniffs(notSmelt(0, 2), notSmelt(1, 2), notSmelt(2, 2)), true},
		"ten days, too early": {late(10), truth(), sniffs(smelt(2, 2)), false},
		"a sniff twice":       {run(), truth(), sniffs(smelt(1, 2), smelt(1, 2)), true},
		"both at once":        {run(), truth(), sniffs(smelt(1, 2), notSmelt(1, 2)), false},
		"24":                  {run(), truth(), slices.Repeat(sniffs(smelt(1, 2)), 24), true},
		"the last of 24":      {run(), truth(), append(slices.Repeat(sniffs(smelt(1, 2)), 23), notSmelt(1, 2)), false},
	} {
		ok, e := mould.Agrees(x.r, x.t, x.l)
		want(t, name, ok, x.want, e, api.OK)
	}
}

// P7.3
func TestCan(t *testing.T) {
	pairless := runWith(func(r *api.MouldRun) { r.Near = nil })
	two := runWith(func(r *api.MouldRun) { r.Few = 2 })
	none := runWith(func(r *api.MouldRun) { r.Few = 0 })
	slow := still(2, 10, 10, 0, 0, 1)
	for name, x := range map[string]struct {
		r               api.MouldRun
		l               []api.Sniff
		time, can, sure int
		e               api.Errno
	}{
		"at first":                    {run(), nil, 0, 15, 0, api.OK},
		"at last":                     {run(), nil, 2, 15, 0, api.OK},
		"the pod 2, at last":          {run(), sniffs(smelt(1, 2)), 2, 14, 6, api.OK},
		"the pod 2, in between":       {run(), sniffs(smelt(1, 2)), 1, 12, 4, api.OK},
		"the pod 2, at first":         {run(), sniffs(smelt(1, 2)), 0, 4, 4, api.OK},
		"the pod 2 of two":            {two, sniffs(smelt(1, 2)), 0, 15, 4, api.OK},
		"only then":                   {run(), sniffs(smelt(2, 2)), 0, 12, 0, api.OK},
		"what is known later":         {run(), sniffs(smelt(2, 1)), 0, 3, 0, api.OK},
		"what must follow":            {run(), sniffs(smelt(2, 1)), 2, 15, 7, api.OK},
		"no leak, as was not smelt":   {run(), sniffs(smelt(2, 2), notSmelt(2, 3)), 1, 4, 4, api.OK},
		"of two, but not of one":      {run(), sniffs(smelt(1, 2), smelt(1, 3)), 0, 0, 0, api.ErrNone},
		"of two":                      {two, sniffs(smelt(1, 2), smelt(1, 3)), 0, 12, 12, api.OK},
		"too early":                   {run(), sniffs(smelt(0, 2)), 2, 0, 0, api.ErrNone},
		"too early to tell":           {run(), sniffs(notSmelt(0, 2)), 0, 15, 0, api.OK},
		"both at once":                {run(), sniffs(smelt(1, 2), notSmelt(1, 2)), 1, 0, 0, api.ErrNone},
		"gone again":                  {run(), sniffs(smelt(1, 2), notSmelt(2, 2)), 0, 0, 0, api.ErrNone},
		"none smelt":                  {run(), sniffs(notSmelt(1, 0), notSmelt(1, 1), notSmelt(1, 2), notSmelt(1, 3)), 2, 0, 0, api.OK},
		"no mould at all":             {none, nil, 2, 0, 0, api.OK},
		"no mould but smell":          {none, sniffs(smelt(2, 0)), 2, 0, 0, api.ErrNone},
		"without pairs":               {pairless, sniffs(smelt(1, 2)), 2, 6, 6, api.OK},
		"it came from no pod":         {pairless, sniffs(notSmelt(1, 0), notSmelt(1, 1), smelt(2, 1)), 2, 0, 0, api.ErrNone},
		"after ten days":              {slow, sniffs(smelt(10, 0)), 0, 7, 1, api.OK},
		"after ten days, the next":    {slow, sniffs(smelt(10, 0)), 1, 7, 3, api.OK},
		"after ten days, without it":  {slow, sniffs(notSmelt(10, 2), smelt(10, 1), notSmelt(9, 1)), 10, 3, 3, api.OK},
		"after nine days":             {slow, sniffs(smelt(9, 0)), 0, 0, 0, api.ErrNone},
		"not after nine days":         {slow, sniffs(notSmelt(9, 0)), 10, 7, 0, api.OK},
		"of a time before the others": {slow, sniffs(smelt(9, 0), notSmelt(10, 0)), 5, 0, 0, api.ErrNone},
	} {
		wantCan(t, name, x.r, x.l, x.time, x.can, x.sure, x.e)
	}
}

// P7.4
func TestShip(t *testing.T) {
	moved := runWith(func(r *api.MouldRun) { r.Boxes, r.Few, r.Where[1] = 5, 0, list(4, 1, 1, 3) })
	for name, x := range map[string]struct {
		r    api.MouldRun
		l    []api.Sniff
		want []int
		e    api.Errno
	}{
		"example":             {run(), sniffs(smelt(1, 2)), list(0), api.OK},
		"one did not smell":   {run(), sniffs(notSmelt(2, 0)), list(0), api.OK},
		"two more":            {run(), sniffs(notSmelt(2, 0), notSmelt(2, 2), notSmelt(2, 3)), list(0, 1, 2), api.OK},
		"no sniffs":           {run(), nil, nil, api.OK},
		"no mould":            {runWith(func(r *api.MouldRun) { r.Few = 0 }), nil, list(0, 1, 2), api.OK},
		"only boxes of then":  {moved, nil, list(1, 3, 4), api.OK},
		"mould at last only":  {run(), sniffs(notSmelt(1, 2), notSmelt(2, 3), notSmelt(2, 0)), list(0, 1, 2), api.OK},
		"it came on that day": {run(), sniffs(notSmelt(1, 3), notSmelt(1, 0), notSmelt(1, 1)), list(0), api.OK},
		"no truth":            {run(), sniffs(smelt(1, 2), smelt(1, 3)), nil, api.ErrNone},
		"too early":           {run(), sniffs(smelt(0, 0)), nil, api.ErrNone},
		"all surely have it":  {still(1, 0, 1, 0, 0), sniffs(smelt(1, 1)), nil, api.OK},
		"the other one":       {still(1, 0, 1, 2, 4), sniffs(smelt(1, 0)), list(4), api.OK},
	} {
		wantShip(t, name, x.r, x.l, x.want, x.e)
	}
}

// P7.5
func TestNext(t *testing.T) {
	apart := still(1, 0, 1, 0, 1, 2, 3, 4)
	groups := still(1, 0, 1, 0, 0, 1, 1, 1)
	late := still(1, 2, 1, 0, 1, 2)
	for name, x := range map[string]struct {
		r          api.MouldRun
		l          []api.Sniff
		pod, worst int
		e          api.Errno
	}{
		"example":                  {run(), nil, 0, 4, api.OK},
		"apart":                    {apart, nil, 0, 4, api.OK},
		"the first one was":        {apart, sniffs(notSmelt(1, 0)), 1, 3, api.OK},
		"not the pod that was":     {apart, sniffs(notSmelt(1, 0), notSmelt(1, 1), notSmelt(1, 2)), 3, 1, api.OK},
		"all is known":             {apart, sniffs(smelt(1, 3)), 0, 1, api.OK},
		"it is clean":              {apart, sniffs(notSmelt(1, 0), notSmelt(1, 1), notSmelt(1, 2), notSmelt(1, 3), notSmelt(1, 4)), 0, 0, api.OK},
		"of the greater box":       {groups, nil, 0, 3, api.OK},
		"of the greater box first": {still(1, 0, 1, 1, 0, 0, 0), nil, 0, 3, api.OK},
		"a box more":               {still(1, 0, 1, 2, 1, 1, 0, 0, 0), nil, 3, 3, api.OK},
		"too early to tell":        {late, nil, 0, 3, api.OK},
		"nothing there":            {runWith(func(r *api.MouldRun) { r.Few = 0 }), nil, 0, 0, api.OK},
		"no truth":                 {run(), sniffs(smelt(1, 2), smelt(1, 3)), 0, 0, api.ErrNone},
		"too early":                {run(), sniffs(smelt(0, 2)), 0, 0, api.ErrNone},
		"after 24":                 {apart, slices.Repeat(sniffs(notSmelt(1, 0)), 24), 1, 3, api.OK},
	} {
		wantNext(t, name, x.r, x.l, x.pod, x.worst, x.e)
	}
}

// P7.3 to P7.5, P1: the largest run.
func TestLargestRun(t *testing.T) {
	wantCan(t, "no sniffs", largest(), nil, 10, 255, 0, api.OK)
	wantShip(t, "no sniffs", largest(), nil, nil, api.OK)
	wantNext(t, "no sniffs", largest(), nil, 0, 8, api.OK)
	var clean []api.Sniff
	for i := range 24 {
		clean = append(clean, notSmelt(10, i%8))
	}
	wantCan(t, "clean", largest(), clean, 10, 0, 0, api.OK)
	wantShip(t, "clean", largest(), clean, list(0, 1, 2, 3, 4), api.OK)
	wantNext(t, "clean", largest(), clean, 0, 0, api.OK)
}

// behind is a list with room behind it, in which lies its first element.
func behind[T any](l []T) []T {
	return append(append(make([]T, 0, len(l)+8), l...), l[0])[:len(l)]
}

// isBehind reports whether what behind has laid there is there still.
func isBehind[T comparable](l []T) bool { return l[:len(l)+1][len(l)] == l[0] }

// used returns what was in a list, which is then changed.
func used[T any](l []T) []T {
	kept := slices.Clone(l)
	_ = append(l, *new(T))
	clear(l)
	return kept
}

// P7.6, P2: arguments stay as they are, and a result that is changed changes no other one.
func TestMemory(t *testing.T) {
	r, x, l := run(), truth(), sniffs(notSmelt(2, 0))
	// What lies behind a list is not the functions' either.
	r.Near, x.Leaks, l = behind(r.Near), behind(x.Leaks), behind(l)
	for day := range r.Where {
		r.Where[day] = behind(r.Where[day])
	}
	for name, call := range map[string]func() any{
		"Check":  func() any { return mould.Check(r) },
		"Play":   func() any { p, _ := mould.Play(r, x); return used(p) },
		"Agrees": func() any { ok, _ := mould.Agrees(r, x, l); return ok },
		"Can":    func() any { c, s, _ := mould.Can(r, l, 1); return [2]int{c, s} },
		"Ship":   func() any { b, _ := mould.Ship(r, l); return used(b) },
		"Next":   func() any { p, w, _ := mould.Next(r, l); return [2]int{p, w} },
	} {
		first := call()
		if again := call(); !reflect.DeepEqual(first, again) {
			t.Errorf("%s: %v, and then %v", name, first, again)
		}
	}
	if !reflect.DeepEqual(r, run()) || !reflect.DeepEqual(x, truth()) || !slices.Equal(l, sniffs(notSmelt(2, 0))) {
		t.Errorf("arguments changed: %v, %v, %v", r, x, l)
	}
	if !isBehind(r.Near) || !isBehind(r.Where[0]) || !isBehind(r.Where[1]) || !isBehind(x.Leaks) || !isBehind(l) {
		t.Errorf("something was written behind an argument")
	}
}

// P7.6: nothing of an argument is kept, so that it can be changed after the call.
func TestNothingIsRetained(t *testing.T) {
	r, x, l := run(), truth(), sniffs(notSmelt(2, 0), notSmelt(2, 2), notSmelt(2, 3))
	p, _ := mould.Play(r, x)
	b, _ := mould.Ship(r, l)
	clear(r.Where[0])
	clear(r.Where[1])
	clear(x.Leaks)
	clear(l)
	want(t, "Play", p, list(4, 4, 14), 0, 0)
	want(t, "Ship", b, list(0, 1, 2), 0, 0)
	wantCan(t, "all in one box", r, l, 1, 15, 0, api.OK)
}

// P1: no function panics, whatever the arguments are.
func TestAnyArguments(t *testing.T) {
	r := rand.New(rand.NewPCG(7, 70))
	n := func() int {
		return list(lowest, -1, 0, 1, 2, 3, 4, 5, 8, 9, 10, 11, 24, 63, 64, 255, highest)[r.IntN(17)]
	}
	for range 20000 {
		g, x, l := run(), truth(), sniffs(smelt(1, 2), notSmelt(2, 0))
		for range 1 + r.IntN(2) {
			switch r.IntN(9) {
			case 0:
				g.Pods = n()
			case 1:
				g.Boxes = n()
			case 2:
				g.Few = n()
			case 3:
				g.Delay = n()
			case 4:
				g.Where = days(list(0, 0, 1, 2), list(n(), n(), n(), n())[:r.IntN(5)])
			case 5:
				g.Near = near(n(), n(), n(), n())
			case 6:
				x = leaking(n(), n(), n())
			case 7:
				l[r.IntN(2)] = api.Sniff{Time: n(), Pod: n(), Smells: r.IntN(2) == 0}
			case 8:
				g.Where = g.Where[:r.IntN(len(g.Where)+1)]
			}
		}
		mould.Check(g)
		mould.Play(g, x)
		mould.Agrees(g, x, l)
		mould.Can(g, l, n())
		mould.Ship(g, l)
		mould.Next(g, l)
	}
}
