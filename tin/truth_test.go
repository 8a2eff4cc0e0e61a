package tin_test

// The properties, and what is said of all codes, sortings, packings and texts, against a calculation that follows the document's words.

import (
	"math/rand/v2"
	"slices"
	"strconv"
	"strings"
	"testing"

	"rostellum/api"
	"rostellum/tin"
)

const signs = "abcdefghijklmnopqrstuvwxyz0123456789-"

// signOf is the check sign by the document's words.
func signOf(text string) string {
	sum, power := 0, 1
	for _, sign := range text {
		power = power * 2 % 37
		sum += strings.IndexRune(signs, sign) * power
	}
	return signs[sum%37 : sum%37+1]
}

// isCode reports whether a text of signs is a code.
func isCode(text string) bool { return text[len(text)-1:] == signOf(text[:len(text)-1]) }

// texts yields all texts of so many signs.
func texts(many int) func(yield func(string) bool) {
	return func(yield func(string) bool) {
		number := 1
		for range many {
			number *= len(signs)
		}
		for n := range number {
			b := make([]byte, many)
			for i := range b {
				b[i] = signs[n%len(signs)]
				n /= len(signs)
			}
			if !yield(string(b)) {
				return
			}
		}
	}
}

// someText returns a text of so many signs.
func someText(r *rand.Rand, many int) string {
	b := make([]byte, many)
	for i := range b {
		b[i] = signs[r.IntN(len(signs))]
	}
	return string(b)
}

// isFault reports whether a text comes of another one by one fault.
func isFault(a, b string) bool {
	var other []int
	for i := range len(a) {
		if a[i] != b[i] {
			other = append(other, i)
		}
	}
	switch len(other) {
	case 1:
		return true
	case 2:
		i, j := other[0], other[1]
		return j == i+1 && a[i] == b[j] && a[j] == b[i]
	}
	return false
}

// P8.1
func TestAllTexts(t *testing.T) {
	for many := 1; many <= 3; many++ {
		for s := range texts(many) {
			sign, e := tin.Sign(s)
			want(t, "Sign of "+s, sign, signOf(s), e, api.OK)
			if many > 1 {
				want(t, "IsCode of "+s, tin.IsCode(s), isCode(s), 0, 0)
			}
		}
	}
	for c := range 256 {
		is := strings.IndexByte(signs, byte(c)) >= 0
		for _, s := range []string{string([]byte{byte(c)}), string([]byte{'a', byte(c)}), string([]byte{byte(c), 'a', 'a'})} {
			code := api.OK
			if !is {
				code = api.ErrTinCode
			}
			if _, e := tin.Sign(s); e != code {
				t.Errorf("Sign of %q: %d", s, e)
			}
			if !is && tin.IsCode(s) {
				t.Errorf("IsCode of %q", s)
			}
		}
	}
	r := rand.New(rand.NewPCG(1, 8))
	for range 20000 {
		s := someText(r, 1+r.IntN(16))
		sign, e := tin.Sign(s)
		want(t, "Sign of "+s, sign, signOf(s), e, api.OK)
		want(t, "IsCode of "+s, tin.IsCode(s+sign), true, 0, 0)
	}
}

// P8.2
func TestAllNear(t *testing.T) {
	r := rand.New(rand.NewPCG(2, 8))
	for range 300 {
		many := 2 + r.IntN(2)
		s := someText(r, many)
		if r.IntN(3) == 0 {
			s = s[:1] + strings.Repeat(s[1:2], many-1)
		}
		var near []string
		for other := range texts(many) {
			if isFault(s, other) && isCode(other) {
				near = append(near, other)
			}
		}
		slices.Sort(near)
		l, e := tin.Near(s)
		want(t, "Near of "+s, l, near, e, api.OK)
	}
	for range 2000 {
		s := someText(r, 2+r.IntN(16))
		l, e := tin.Near(s)
		if e != api.OK || !slices.IsSorted(l) || len(slices.Compact(slices.Clone(l))) != len(l) {
			t.Fatalf("Near of %s: %v, %d", s, l, e)
		}
		for _, other := range l {
			if !isFault(s, other) || !isCode(other) {
				t.Errorf("Near of %s: %s", s, other)
			}
		}
		for range 100 {
			b := []byte(s)
			if i := r.IntN(len(b)); i > 0 && r.IntN(2) == 0 {
				b[i], b[i-1] = b[i-1], b[i]
			} else {
				b[i] = signs[r.IntN(len(signs))]
			}
			if other := string(b); other != s && isCode(other) != slices.Contains(l, other) {
				t.Errorf("Near of %s: %v, and %s", s, l, other)
			}
		}
	}
}

// P8.8, and P8.2: nothing is near a code.
func TestFaultsAreNoticed(t *testing.T) {
	r := rand.New(rand.NewPCG(3, 8))
	for i := range 400 {
		s := code(someText(r, 1+i%16))
		if !tin.IsCode(s) {
			t.Fatalf("%s is no code", s)
		}
		for i := range len(s) {
			for _, sign := range []byte(signs) {
				if other := s[:i] + string(sign) + s[i+1:]; other != s && tin.IsCode(other) {
					t.Errorf("%s and %s are codes", s, other)
				}
			}
			for j := range i {
				b := []byte(s)
				b[i], b[j] = b[j], b[i]
				if s[i] != s[j] && tin.IsCode(string(b)) {
					t.Errorf("%s and %s are codes", s, b)
				}
			}
		}
		l, e := tin.Near(s)
		want(t, "Near of "+s, l, nil, e, api.OK)
	}
}

// alike reports whether two lengths differ by at most the band in each truth.
func alike(r api.TinRule, a, b int) bool {
	for x := a - r.Wrong; x <= a+r.Wrong; x++ {
		for y := b - r.Wrong; y <= b+r.Wrong; y++ {
			if x-y > r.Band || y-x > r.Band {
				return false
			}
		}
	}
	return true
}

// mostBundles tries all sortings of the pods that are left.
func mostBundles(r api.TinRule, left []int) int {
	if len(left) < r.Many {
		return 0
	}
	most := mostBundles(r, left[1:])
	var grow func(bundle, others, rest []int)
	grow = func(bundle, others, rest []int) {
		if len(bundle) == r.Many {
			most = max(most, 1+mostBundles(r, slices.Concat(others, rest)))
			return
		}
		for i, p := range rest {
			if !slices.ContainsFunc(bundle, func(q int) bool { return !alike(r, p, q) }) {
				grow(slices.Concat(bundle, []int{p}), slices.Concat(others, rest[:i]), rest[i+1:])
			}
		}
	}
	grow(left[:1:1], nil, left[1:])
	return most
}

// P8.3, P8.9
func TestAllSortings(t *testing.T) {
	r := rand.New(rand.NewPCG(4, 8))
	seen := map[int]int{}
	for range 3000 {
		rule := api.TinRule{Many: 1 + r.IntN(4), Band: r.IntN(8), Wrong: r.IntN(3)}
		pods := make([]int, r.IntN(8))
		for i := range pods {
			pods[i] = 1 + r.IntN(2+r.IntN(20))
		}
		sorting, e := tin.Sort(rule, pods)
		most := mostBundles(rule, pods)
		seen[most]++
		want(t, "bundles of Sort", len(sorting), most, e, api.OK)
		isSorting(t, rule, pods, sorting)
		if t.Failed() {
			t.Fatalf("%v of %v: %v", rule, pods, sorting)
		}
	}
	if seen[0] == 0 || seen[1] == 0 || seen[2] == 0 || seen[3] == 0 {
		t.Errorf("not all kinds of sortings: %v", seen)
	}
}

// P8.9: of many pods, too. A best sorting has bundles of pods that follow each other by length.
func TestLargeSortings(t *testing.T) {
	r := rand.New(rand.NewPCG(5, 8))
	for range 500 {
		rule := api.TinRule{Many: 1 + r.IntN(12), Band: r.IntN(60), Wrong: r.IntN(21)}
		pods := make([]int, 100+r.IntN(101))
		for i := range pods {
			pods[i] = 1 + r.IntN(400)
		}
		sorting, e := tin.Sort(rule, pods)
		if e != api.OK {
			t.Fatalf("Sort: %d", e)
		}
		isSorting(t, rule, pods, sorting)
		sorted := slices.Sorted(slices.Values(pods))
		most := make([]int, len(sorted)+1)
		for i := range sorted {
			most[i+1] = most[i]
			if from := i + 1 - rule.Many; from >= 0 && (rule.Many == 1 || alike(rule, sorted[from], sorted[i])) {
				most[i+1] = max(most[i+1], 1+most[from])
			}
		}
		want(t, "bundles of Sort", len(sorting), most[len(sorted)], 0, 0)
		for _, bundle := range sorting {
			var truth []int
			for _, p := range bundle {
				truth = append(truth, pods[p]-rule.Wrong+r.IntN(2*rule.Wrong+1))
			}
			if slices.Max(truth)-slices.Min(truth) > rule.Band {
				t.Errorf("%v: a bundle of the lengths %v", rule, truth)
			}
		}
	}
}

// someBundles returns a size of tins, and up to so many bundles, of which some may be too heavy.
func someBundles(r *rand.Rand, most int) (int, []api.TinBundle) {
	var l []api.TinBundle
	grades, heaviest := 1+r.IntN(2), 2+r.IntN(10)
	for range r.IntN(most + 1) {
		low := 1 + r.IntN(heaviest)
		l = append(l, bundle(r.IntN(grades), low, low+r.IntN(3)))
	}
	size := heaviest + 2 + r.IntN(3*heaviest)
	if r.IntN(10) == 0 {
		size -= heaviest
	}
	return size, l
}

// canHold reports whether a tin can hold bundles.
func canHold(size int, l []api.TinBundle, tin []int) bool {
	weight := 0
	for _, i := range tin {
		weight += l[i].Weight.High
		if l[i].Grade != l[tin[0]].Grade {
			return false
		}
	}
	return len(tin) > 0 && weight <= size
}

// packings yields all packings: the next bundle goes into each tin that is there, or into a new one.
func packings(size int, l []api.TinBundle, tins [][]int, next int, yield func([][]int)) {
	if next == len(l) {
		if !slices.ContainsFunc(tins, func(tin []int) bool { return !canHold(size, l, tin) }) {
			yield(copies(tins))
		}
		return
	}
	for i := range tins {
		more := copies(tins)
		more[i] = append(more[i], next)
		packings(size, l, more, next+1, yield)
	}
	packings(size, l, append(copies(tins), []int{next}), next+1, yield)
}

// P8.4, P8.5, P8.10
func TestAllPackings(t *testing.T) {
	r := rand.New(rand.NewPCG(6, 8))
	seen := map[api.Errno]int{}
	for range 1500 {
		size, l := someBundles(r, 7)
		var best [][]int
		code := api.ErrNone
		packings(size, l, nil, 0, func(packing [][]int) {
			weights, e := tin.Sure(size, l, packing)
			want(t, "Sure", weights, weightsOf(l, packing), e, api.OK)
			if code != api.OK || len(packing) < len(best) || len(packing) == len(best) && slices.CompareFunc(packing, best, slices.Compare[[]int]) < 0 {
				best, code = packing, api.OK
			}
		})
		packing, e := tin.Pack(size, l)
		want(t, "Pack", packing, best, e, code)
		seen[code]++
		if t.Failed() {
			t.Fatalf("%v into %d", l, size)
		}
	}
	if seen[api.OK] == 0 || seen[api.ErrNone] == 0 {
		t.Errorf("not all kinds of bundles: %v", seen)
	}
}

// weightsOf adds the weights of each tin.
func weightsOf(l []api.TinBundle, packing [][]int) []api.Span {
	var weights []api.Span
	for _, tin := range packing {
		var w api.Span
		for _, i := range tin {
			w = api.Span{Low: w.Low + l[i].Weight.Low, High: w.High + l[i].Weight.High}
		}
		weights = append(weights, w)
	}
	return weights
}

// P8.5: of all lists of lists of a few indices, those that are packings.
func TestAllLists(t *testing.T) {
	var tins [][]int
	for a := -1; a <= 3; a++ {
		for b := -2; b <= 3; b++ {
			for c := -2; c <= 3; c++ {
				// -2 stands for nothing.
				l := slices.DeleteFunc([]int{a, b, c}, func(n int) bool { return n == -2 })
				tins = append(tins, l)
			}
		}
	}
	tins = append(tins, nil)
	for _, l := range [][]api.TinBundle{
		{bundle(0, 1, 3), bundle(0, 2, 4), bundle(0, 3, 5)},
		{bundle(0, 1, 3), bundle(1, 2, 4), bundle(0, 3, 5)},
		{bundle(0, 1, 3), bundle(0, 2, 4)},
	} {
		for _, size := range []int{4, 5, 7, 8, 12} {
			good := map[string]bool{}
			packings(size, l, nil, 0, func(packing [][]int) { good[show(packing)] = true })
			check := func(packing [][]int) {
				code, wanted := api.ErrTinPack, []api.Span(nil)
				if good[show(packing)] {
					code, wanted = api.OK, weightsOf(l, packing)
				}
				weights, e := tin.Sure(size, l, packing)
				want(t, "Sure of "+show(packing), weights, wanted, e, code)
			}
			for _, a := range tins {
				check([][]int{a})
				for _, b := range tins {
					check([][]int{a, b})
				}
			}
			check([][]int{{0}, {1}, {2}})
			check([][]int{{0}, {2}, {1}})
			check([][]int{{0}, {1}, {2}, nil})
			if t.Failed() {
				t.Fatalf("%v into %d", l, size)
			}
		}
	}
}

// show writes lists as a text.
func show(lists [][]int) string {
	var b strings.Builder
	for _, l := range lists {
		for _, n := range l {
			b.WriteString(strconv.Itoa(n) + " ")
		}
		b.WriteString("/ ")
	}
	return b.String()
}

// P8.4, P8.10: of twelve bundles, too, whatever they truly weigh.
func TestLargePackings(t *testing.T) {
	r := rand.New(rand.NewPCG(7, 8))
	for range 200 {
		var l []api.TinBundle
		grades := 1 + r.IntN(3)
		for range 12 {
			low := 1 + r.IntN(40000)
			l = append(l, bundle(r.IntN(grades), low, low+r.IntN(5000)))
		}
		size := 45000 + r.IntN(55001)
		packing, e := tin.Pack(size, l)
		if e != api.OK {
			t.Fatalf("Pack: %d", e)
		}
		weights, e := tin.Sure(size, l, packing)
		want(t, "Sure", weights, weightsOf(l, packing), e, api.OK)
		want(t, "tins", len(packing), fewestTins(size, l), 0, 0)
		for i, holds := range packing {
			weight := 0
			for _, at := range holds {
				w := l[at].Weight
				weight += w.Low + r.IntN(w.High-w.Low+1)
			}
			if weight > size || weight < weights[i].Low || weight > weights[i].High {
				t.Errorf("a tin of %d grams, %v, of the size %d", weight, weights[i], size)
			}
		}
	}
}

// fewestTins is by sets of bundles: what a set needs is one more than the least that any of it leaves when a tin was filled.
func fewestTins(size int, l []api.TinBundle) int {
	fits := make([]bool, 1<<len(l))
	for set := range fits {
		var holds []int
		for i := range l {
			if set>>i&1 == 1 {
				holds = append(holds, i)
			}
		}
		fits[set] = set > 0 && canHold(size, l, holds)
	}
	fewest := make([]int, len(fits))
	for set := 1; set < len(fits); set++ {
		fewest[set] = len(l)
		for part := set; part > 0; part = (part - 1) & set {
			if fits[part] {
				fewest[set] = min(fewest[set], 1+fewest[set&^part])
			}
		}
	}
	return fewest[len(fewest)-1]
}

// someList returns a list.
func someList(r *rand.Rand) []api.Tin {
	var l []api.Tin
	for i := range r.IntN(6) {
		words := []string{"a", "a-", "a0", "ab", "b", "tin", "x1", "x2", "z--------------9"}
		marks := slices.DeleteFunc(words, func(string) bool { return r.IntN(3) > 0 })
		l = append(l, api.Tin{Code: code(signs[i:i+1] + someText(r, r.IntN(16))), Grade: r.IntN(10), Weight: 1 + r.IntN(100000), Marks: marks})
		if len(marks) == 0 {
			l[i].Marks = nil
		}
	}
	return l
}

// P8.6, P8.11: what is printed is parsed as it was; and a text with other bytes is parsed only if it is printed as it was.
func TestTextsComeBack(t *testing.T) {
	r := rand.New(rand.NewPCG(9, 8))
	parsed := map[bool]int{}
	for range 1000 {
		list := someList(r)
		s, e := tin.Print(list)
		if e != api.OK {
			t.Fatalf("Print of %v: %d", list, e)
		}
		l, e := tin.Parse(s)
		want(t, "Parse", l, list, e, api.OK)
		for range 20 {
			if s == "" {
				break
			}
			other := []byte(s)
			i := r.IntN(len(other))
			switch c := "\n  ainst0129-+X"[r.IntN(15)]; r.IntN(3) {
			case 0:
				other[i] = c
			case 1:
				other = slices.Insert(other, i, c)
			case 2:
				other = slices.Delete(other, i, i+1)
			}
			l, e := tin.Parse(string(other))
			parsed[e == api.OK]++
			if e != api.OK {
				want(t, "Parse", l, nil, e, api.ErrForm)
				continue
			}
			s, e := tin.Print(l)
			want(t, "Print", s, string(other), e, api.OK)
		}
	}
	if parsed[true] == 0 || parsed[false] == 0 {
		t.Errorf("not all kinds of texts: %v", parsed)
	}
}
