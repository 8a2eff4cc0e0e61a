package vine_test

// The properties, and what is said of all truths, against a calculation that tries every one of them.

import (
	"math/rand/v2"
	"slices"
	"testing"

	"rostellum/api"
	"rostellum/vine"
)

// some returns a small season and racemes of small needs.
func some(r *rand.Rand) (api.Season, []api.Raceme) {
	s := api.Season{Base: r.IntN(8), Wet: r.IntN(5)}
	for day := range 1 + r.IntN(4) {
		warm, rain := r.IntN(20), r.IntN(6)
		s.Days = append(s.Days, api.VineDay{Warm: span(warm, warm+r.IntN(4)), Rain: span(rain, rain+r.IntN(2))})
		if r.IntN(3) == 0 {
			s.Cuts = append(s.Cuts, day)
		}
	}
	low := r.IntN(60)
	s.Shade = api.ShadeRule{From: r.IntN(101), Grows: r.IntN(51), Cut: r.IntN(101), Good: span(low, low+r.IntN(41))}
	l := make([]api.Raceme, r.IntN(4))
	for i := range l {
		l[i] = api.Raceme{Need: r.IntN(25), Flowers: 1 + r.IntN(3)}
	}
	return s, l
}

// shades follows the shade by the document's words.
func shades(s api.Season, cuts []int) []int {
	var l []int
	for day := range s.Days {
		shade := s.Shade.From
		if day > 0 {
			shade = l[day-1] + s.Shade.Grows
			if shade > 100 {
				shade = 100
			}
		}
		if slices.Contains(cuts, day) && shade > s.Shade.Cut {
			shade = s.Shade.Cut
		}
		l = append(l, shade)
	}
	return l
}

// truths calls see with every truth of a season.
func truths(s api.Season, see func(w api.Weather)) {
	var w api.Weather
	var day func()
	day = func() {
		n := len(w.Warm)
		if n == len(s.Days) {
			see(w)
			return
		}
		d := s.Days[n]
		for warm := d.Warm.Low; warm <= d.Warm.High; warm++ {
			for rain := d.Rain.Low; rain <= d.Rain.High; rain++ {
				w.Warm, w.Rain = append(w.Warm, warm), append(w.Rain, rain)
				day()
				w.Warm, w.Rain = w.Warm[:n], w.Rain[:n]
			}
		}
	}
	day()
}

// heats follows the heat by the document's words.
func heats(s api.Season, w api.Weather) []int {
	var l []int
	for day, shade := range shades(s, s.Cuts) {
		heat := 0
		if w.Rain[day] <= s.Wet && w.Warm[day] > s.Base {
			heat = (w.Warm[day] - s.Base) * (100 - shade) / 100
		}
		l = append(l, heat)
	}
	return l
}

// opens is the day on which a raceme opens, or the number of days.
func opens(h []int, r api.Raceme) int {
	sum := 0
	for day := range h {
		sum += h[day]
		if sum >= r.Need {
			return day
		}
	}
	return len(h)
}

// hull is the least span with a number and all numbers of another one.
func hull(s api.Span, n int) api.Span { return span(min(s.Low, n), max(s.High, n)) }

// P1.2, P1.3, P1.4, P1.9
func TestAllTruths(t *testing.T) {
	r := rand.New(rand.NewPCG(1, 2))
	for range 400 {
		s, l := some(r)
		day, few := r.IntN(len(s.Days)), span(1000, -1)
		open := slices.Repeat([]api.Span{few}, len(l))
		flowers := few
		truths(s, func(w api.Weather) {
			h := heats(s, w)
			blooms := make([]int, len(h))
			for i, x := range l {
				first := opens(h, x)
				open[i] = hull(open[i], first)
				for k := range h {
					if k >= first && k < first+x.Flowers {
						blooms[k]++
					}
				}
			}
			flowers = hull(flowers, blooms[day])
			got, e := vine.Heats(s, w)
			want(t, "Heats", got, h, e, api.OK)
			got, e = vine.Blooms(s, w, l)
			want(t, "Blooms", got, blooms, e, api.OK)
		})
		got, e := vine.Flowers(s, l, day)
		want(t, "Flowers", got, flowers, e, api.OK)
		for i, x := range l {
			got, e := vine.Opens(s, x)
			want(t, "Opens", got, open[i], e, api.OK)
		}
		if t.Failed() {
			t.Fatalf("with %+v, %v, day %d", s, l, day)
		}
	}
}

// P1.5, P1.11
func TestAllCuts(t *testing.T) {
	r := rand.New(rand.NewPCG(3, 4))
	none := 0
	for range 3000 {
		s, _ := some(r)
		s.Days, s.Cuts = make([]api.VineDay, 1+r.IntN(7)), nil
		s.Shade.Grows = r.IntN(30)
		best, code := []int(nil), api.ErrNone
		for set := range 1 << len(s.Days) {
			var cuts []int
			for day := range s.Days {
				if set>>day&1 == 1 {
					cuts = append(cuts, day)
				}
			}
			good := !slices.ContainsFunc(shades(s, cuts), func(n int) bool { return n < s.Shade.Good.Low || n > s.Shade.Good.High })
			if good && (code != api.OK || len(cuts) < len(best) || len(cuts) == len(best) && slices.Compare(cuts, best) < 0) {
				best, code = cuts, api.OK
			}
		}
		if code != api.OK {
			none++
		}
		got, e := vine.Trim(s)
		want(t, "Trim", got, best, e, code)
		s.Cuts = got
		l, e := vine.Shades(s)
		want(t, "Shades", l, shades(s, got), e, api.OK)
		if t.Failed() {
			t.Fatalf("with %+v", s)
		}
	}
	if none == 0 || none == 3000 {
		t.Errorf("%d of 3000 seasons without a list", none)
	}
}

// P1.10
func TestNotEarlier(t *testing.T) {
	r := rand.New(rand.NewPCG(5, 6))
	for range 3000 {
		s, _ := some(r)
		x := api.Raceme{Need: r.IntN(40), Flowers: 1}
		before, _ := vine.Opens(s, x)
		s.Days = slices.Clone(s.Days)
		switch r.IntN(4) {
		case 0:
			x.Need += r.IntN(10)
		case 1:
			s.Shade.From = min(100, s.Shade.From+r.IntN(20))
			s.Shade.Grows = min(50, s.Shade.Grows+r.IntN(20))
			s.Shade.Cut = min(100, s.Shade.Cut+r.IntN(20))
		case 2:
			s.Base += r.IntN(10)
		default:
			w := &s.Days[r.IntN(len(s.Days))].Warm
			w.Low = r.IntN(w.Low + 1)
			w.High = w.Low + r.IntN(w.High-w.Low+1)
		}
		after, e := vine.Opens(s, x)
		if e != api.OK || after.Low < before.Low || after.High < before.High {
			t.Fatalf("%+v, %v: %v instead of %v, %d", s, x, after, before, e)
		}
	}
}
