package tin_test

import (
	"math/rand/v2"
	"reflect"
	"slices"
	"strconv"
	"strings"
	"testing"

	"rostellum/api"
	"rostellum/tin"
)

const lowest, highest = -1 << 63, 1<<63 - 1

// rule, pods and bundles are those of the document's examples.
func rule() api.TinRule { return api.TinRule{Many: 3, Band: 5, Wrong: 1} }

func pods() []int { return []int{150, 152, 160, 151, 161, 170, 153, 162} }

func bundles() []api.TinBundle {
	return []api.TinBundle{bundle(0, 300, 310), bundle(0, 400, 420), bundle(0, 200, 200), bundle(0, 100, 120), bundle(1, 500, 505)}
}

func bundle(grade, low, high int) api.TinBundle {
	return api.TinBundle{Grade: grade, Weight: api.Span{Low: low, High: high}}
}

// bundlesOf are of one grade, each with one weight that is known.
func bundlesOf(weights ...int) []api.TinBundle {
	var l []api.TinBundle
	for _, w := range weights {
		l = append(l, bundle(0, w, w))
	}
	return l
}

// list is one of which the first tin is that of the document's example.
func list() []api.Tin {
	return []api.Tin{
		{Code: "abe", Grade: 1, Weight: 500, Marks: []string{"x1", "x2"}},
		{Code: "bc", Grade: 0, Weight: 1},
		{Code: "aci", Grade: 9, Weight: 100000, Marks: []string{"x2"}},
	}
}

// listWith is the list, of which one tin is changed.
func listWith(i int, change func(t *api.Tin)) []api.Tin {
	l := list()
	change(&l[i])
	return l
}

// code is a text with its check sign.
func code(text string) string {
	s, _ := tin.Sign(text)
	return text + s
}

// tins are so many, with different codes.
func tins(many int) []api.Tin {
	var l []api.Tin
	for i := range many {
		l = append(l, api.Tin{Code: code("t" + strconv.Itoa(i)), Grade: i % 10, Weight: 1 + i})
	}
	return l
}

// marks are so many words, strictly increasing.
func marks(many int) []string {
	var l []string
	for i := range many {
		l = append(l, "m"+string(rune('a'+i)))
	}
	return l
}

// numbers are so many times the same number.
func numbers(many, n int) []int { return slices.Repeat([]int{n}, many) }

// want compares a result; a nil list and an empty one are the same.
func want[T any](t *testing.T, name string, got, wanted T, e, code api.Errno) {
	t.Helper()
	if e != code {
		t.Errorf("%s: error %d instead of %d", name, e, code)
	}
	if v := reflect.ValueOf(got); v.Kind() == reflect.Slice && v.Len() == 0 && reflect.ValueOf(wanted).Len() == 0 {
		return
	}
	if !reflect.DeepEqual(got, wanted) {
		t.Errorf("%s: %v instead of %v", name, got, wanted)
	}
}

func TestExamples(t *testing.T) {
	for text, sign := range map[string]string{"a": "a", "b": "c", "ab": "e", "a1": "8"} {
		s, e := tin.Sign(text)
		want(t, "Sign of "+text, s, sign, e, api.OK)
	}
	for code, is := range map[string]bool{"abe": true, "aba": false, "ae": false} {
		want(t, "IsCode of "+code, tin.IsCode(code), is, 0, 0)
	}
	near, e := tin.Near("ea")
	want(t, "Near", near, []string{"aa", "ei"}, e, api.OK)
	sorting, e := tin.Sort(rule(), pods())
	want(t, "bundles of Sort", len(sorting), 2, e, api.OK)
	isSorting(t, rule(), pods(), sorting)
	packing, e := tin.Pack(700, bundles())
	want(t, "Pack", packing, [][]int{{0, 2}, {1, 3}, {4}}, e, api.OK)
	weights, e := tin.Sure(700, bundles(), packing)
	want(t, "Sure", weights, []api.Span{{Low: 500, High: 510}, {Low: 500, High: 540}, {Low: 500, High: 505}}, e, api.OK)
	s, e := tin.Print(list()[:1])
	want(t, "Print", s, "tin abe 1 500 x1 x2\n", e, api.OK)
	// That of DOC.md: two signs of abe that are exchanged.
	for _, code := range []string{"bae", "aeb", "eba"} {
		want(t, "IsCode of "+code, tin.IsCode(code), false, 0, 0)
	}
}

// P8.1
func TestSign(t *testing.T) {
	for text, sign := range map[string]string{
		"z": "n", "0": "p", "9": "7", "-": "9", // sums of 50, 52, 70 and 72
		"ba": "c", "bb": "g", "aab": "i", "--": "5", // of 2, 6, 8 and 216
		"aaaaaaaaaaaaaaaa": "a", "baaaaaaaaaaaaaaa": "c", "aaaaaaaaaaaaaaab": "j", // of 0, 2 and 65536
		"----------------": "v", "abcdefghijklmnop": "8", // of 4718520 and 1835012
	} {
		s, e := tin.Sign(text)
		want(t, "Sign of "+text, s, sign, e, api.OK)
		want(t, "IsCode of "+text+sign, tin.IsCode(text+sign), true, 0, 0)
	}
	for _, text := range []string{"", "A", "_", " ", "a ", " a", "a b", "aB", "a\n", "\x00", "`", "{", "/", ":", ",", ".", "é", "aé", "\xff", "abcdefghijklmnopq", strings.Repeat("a", 1000)} {
		s, e := tin.Sign(text)
		want(t, "Sign of "+text, s, "", e, api.ErrTinCode)
	}
	for _, code := range []string{"", "a", "b", "ab", "abE", "Abe", "abe ", " abe", "abee", "ab e", "ab\x00", "abé", "aa\n", strings.Repeat("a", 18), strings.Repeat("a", 1000)} {
		want(t, "IsCode of "+code, tin.IsCode(code), false, 0, 0)
	}
	want(t, "IsCode of the least code", tin.IsCode("aa"), true, 0, 0)
	want(t, "IsCode of the longest code", tin.IsCode(strings.Repeat("a", 17)), true, 0, 0)
}

// P8.2
func TestNear(t *testing.T) {
	for text, codes := range map[string][]string{
		"ab": {"aa", "tb"}, "ba": {"aa", "bc"}, "ca": {"aa", "ce"}, "--": {"-9", "s-"}, "zz": {"5z", "zn"}, "b-": {"bc", "s-"},
		"eab": {"e0b", "eai", "tab"}, "aab": {"a2b", "aaa", "tab"},
		"bae": {"abe", "bac", "bte", "cae"},
		"abe": nil, "aa": nil, "aaaaaaaaaaaaaaaaa": nil,
	} {
		l, e := tin.Near(text)
		want(t, "Near of "+text, l, codes, e, api.OK)
	}
	// A code of which two signs have changed places, and then nothing else: it is among those that are near.
	for _, code := range []string{"abe", code("z9-"), code("abcdefghijklmnop")} {
		for i := range len(code) - 1 {
			b := []byte(code)
			b[i], b[i+1] = b[i+1], b[i]
			l, e := tin.Near(string(b))
			if e != api.OK || !slices.Contains(l, code) {
				t.Errorf("Near of %s: %v, %d", b, l, e)
			}
		}
	}
	for _, text := range []string{"", "a", "-", "aB", "AB", "a ", " a", "a\n", "a_", "é", "ab\x00", strings.Repeat("a", 18), strings.Repeat("b", 1000)} {
		l, e := tin.Near(text)
		want(t, "Near of "+text, l, nil, e, api.ErrTinCode)
	}
}

// isSorting checks that bundles are a sorting.
func isSorting(t *testing.T, r api.TinRule, pods []int, sorting [][]int) {
	t.Helper()
	used := map[int]bool{}
	for _, l := range sorting {
		if len(l) != r.Many {
			t.Errorf("a bundle %v of other than %d pods", l, r.Many)
		}
		for i, p := range l {
			if p < 0 || p >= len(pods) || used[p] || i > 0 && p <= l[i-1] {
				t.Fatalf("wrong pods in %v of %v", l, sorting)
			}
			used[p] = true
			for _, q := range l[:i] {
				if max(pods[p]-pods[q], pods[q]-pods[p])+2*r.Wrong > r.Band {
					t.Errorf("%v: pods of %d and %d in a bundle of %v", sorting, pods[p], pods[q], r)
				}
			}
		}
	}
}

// P8.3
func TestSort(t *testing.T) {
	for i, x := range []struct {
		r    api.TinRule
		pods []int
		many int
	}{
		{rule(), nil, 0},
		{rule(), []int{150, 150}, 0},
		{rule(), []int{150, 150, 150}, 1},
		{rule(), []int{150, 153, 150}, 1},
		{rule(), []int{150, 154, 150}, 0},
		{rule(), []int{154, 150, 150, 153}, 1},
		{rule(), []int{150, 150, 150, 150, 150}, 1},
		{rule(), []int{150, 150, 150, 150, 150, 150}, 2},
		// the two that are left over are not together
		{api.TinRule{Many: 2, Band: 3}, []int{1, 5, 8, 11, 14, 30}, 2},
		{api.TinRule{Many: 2, Band: 3}, []int{11, 2, 8, 5, 14, 17}, 3},
		// no length is known well enough
		{api.TinRule{Many: 2, Band: 39, Wrong: 20}, numbers(200, 400), 0},
		{api.TinRule{Many: 2, Band: 40, Wrong: 20}, numbers(200, 400), 100},
		// lengths may truly be below 1, and above 400
		{api.TinRule{Many: 2, Band: 2, Wrong: 2}, []int{1, 1}, 0},
		{api.TinRule{Many: 2, Band: 2, Wrong: 2}, []int{400, 400}, 0},
		// of one pod no two lengths differ
		{api.TinRule{Many: 1, Band: 0, Wrong: 20}, pods(), 8},
		{api.TinRule{Many: 1}, numbers(200, 1), 200},
		{api.TinRule{Many: 1}, nil, 0},
		{api.TinRule{Many: 2}, []int{1, 2, 1, 2, 3}, 2},
		{api.TinRule{Many: 2, Band: 1}, []int{1, 2, 1, 2, 3}, 2},
		{api.TinRule{Many: 2, Band: 400}, []int{1, 400, 200}, 1},
		{api.TinRule{Many: 2, Band: 400, Wrong: 20}, []int{1, 361}, 1},
		{api.TinRule{Many: 2, Band: 400, Wrong: 20}, []int{1, 362}, 0},
		{api.TinRule{Many: 100, Band: 0}, numbers(200, 7), 2},
		{api.TinRule{Many: 100, Band: 0}, append(numbers(100, 8), numbers(100, 7)...), 2},
		{api.TinRule{Many: 100, Band: 0}, append(numbers(101, 8), numbers(99, 7)...), 1},
		{api.TinRule{Many: 100, Band: 0}, numbers(99, 7), 0},
	} {
		sorting, e := tin.Sort(x.r, x.pods)
		want(t, "bundles of Sort "+strconv.Itoa(i), len(sorting), x.many, e, api.OK)
		isSorting(t, x.r, x.pods, sorting)
	}
}

// P8.3
func TestWrongPods(t *testing.T) {
	for name, r := range map[string]api.TinRule{
		"zero":    {},
		"no pod":  {Many: 0, Band: 5, Wrong: 1},
		"-1 pods": {Many: -1, Band: 5}, "101 pods": {Many: 101, Band: 5}, "lowest many": {Many: lowest}, "highest many": {Many: highest},
		"band -1": {Many: 3, Band: -1}, "band 401": {Many: 3, Band: 401}, "lowest band": {Many: 3, Band: lowest}, "highest band": {Many: 3, Band: highest},
		"wrong -1": {Many: 3, Band: 5, Wrong: -1}, "wrong 21": {Many: 3, Band: 400, Wrong: 21}, "lowest wrong": {Many: 3, Wrong: lowest}, "highest wrong": {Many: 3, Wrong: highest},
	} {
		for _, l := range [][]int{nil, pods()} {
			sorting, e := tin.Sort(r, l)
			want(t, name, sorting, nil, e, api.ErrTinPods)
		}
	}
	for name, l := range map[string][]int{
		"201 pods": numbers(201, 1), "a length of 0": {0}, "a last one of 0": {1, 1, 1, 0}, "a length below 0": {1, -1, 1},
		"a length of 401": {400, 401}, "lowest": {lowest}, "highest": {150, 150, 150, highest},
	} {
		sorting, e := tin.Sort(rule(), l)
		want(t, name, sorting, nil, e, api.ErrTinPods)
	}
	sorting, e := tin.Sort(api.TinRule{Many: 1}, []int{1, 400})
	want(t, "the least and the greatest length", len(sorting), 2, e, api.OK)
}

// P8.4
func TestPack(t *testing.T) {
	for i, x := range []struct {
		size    int
		l       []api.TinBundle
		packing [][]int
	}{
		{1, nil, nil},
		{100000, nil, nil},
		{1, bundlesOf(1), [][]int{{0}}},
		{100000, bundlesOf(100000, 100000), [][]int{{0}, {1}}},
		// as few bundles in front as can be: a list comes before one that it begins
		{2, bundlesOf(1, 1, 1), [][]int{{0}, {1, 2}}},
		{3, bundlesOf(1, 1, 1), [][]int{{0, 1, 2}}},
		{3, bundlesOf(1, 1, 1, 1), [][]int{{0}, {1, 2, 3}}},
		{3, bundlesOf(1, 1, 1, 1, 1), [][]int{{0, 1}, {2, 3, 4}}},
		{10, bundlesOf(6, 3, 4, 7), [][]int{{0, 2}, {1, 3}}},
		{10, bundlesOf(5, 5, 4, 3, 3), [][]int{{0, 1}, {2, 3, 4}}},
		// what fills the first tin most is not the best
		{12, bundlesOf(4, 8, 3, 3, 6), [][]int{{0, 1}, {2, 3, 4}}},
		{700, []api.TinBundle{bundle(0, 1, 350), bundle(0, 1, 350)}, [][]int{{0, 1}}},
		{699, []api.TinBundle{bundle(0, 1, 350), bundle(0, 1, 350)}, [][]int{{0}, {1}}},
		// only one grade in each tin
		{100, []api.TinBundle{bundle(9, 1, 1), bundle(0, 1, 1), bundle(9, 1, 1), bundle(0, 1, 1)}, [][]int{{0, 2}, {1, 3}}},
		{100, []api.TinBundle{bundle(0, 1, 1), bundle(1, 1, 1), bundle(2, 1, 1), bundle(3, 1, 1)}, [][]int{{0}, {1}, {2}, {3}}},
		{100000, bundlesOf(numbers(12, 1)...), [][]int{{0, 1, 2, 3, 4, 5, 6, 7, 8, 9, 10, 11}}},
		{11, bundlesOf(numbers(12, 1)...), [][]int{{0}, {1, 2, 3, 4, 5, 6, 7, 8, 9, 10, 11}}},
		{4, bundlesOf(numbers(12, 1)...), [][]int{{0, 1, 2, 3}, {4, 5, 6, 7}, {8, 9, 10, 11}}},
		{1, bundlesOf(numbers(12, 1)...), [][]int{{0}, {1}, {2}, {3}, {4}, {5}, {6}, {7}, {8}, {9}, {10}, {11}}},
		{150000 / 2, bundlesOf(50000, 25000, 25000, 50000), [][]int{{0, 1}, {2, 3}}},
	} {
		packing, e := tin.Pack(x.size, x.l)
		want(t, "Pack "+strconv.Itoa(i), packing, x.packing, e, api.OK)
	}
	for name, x := range map[string]struct {
		size int
		l    []api.TinBundle
	}{
		"one":          {309, bundles()[:1]},
		"by its High":  {419, bundles()},
		"the last one": {504, bundles()},
		"only it":      {99999, bundlesOf(100000)},
	} {
		packing, e := tin.Pack(x.size, x.l)
		want(t, name+" is too heavy", packing, nil, e, api.ErrNone)
	}
	packing, e := tin.Pack(505, bundles())
	want(t, "a tin that one bundle fills", packing, [][]int{{0}, {1}, {2, 3}, {4}}, e, api.OK)
}

func wrongBundles() map[string][]api.TinBundle {
	return map[string][]api.TinBundle{
		"13 bundles":         bundlesOf(numbers(13, 1)...),
		"grade -1":           {bundle(-1, 1, 1)},
		"grade 10":           append(bundles(), bundle(10, 1, 1)),
		"lowest grade":       {bundle(lowest, 1, 1)},
		"highest grade":      {bundle(highest, 1, 1)},
		"zero":               {{}},
		"weight of 0":        {bundle(0, 0, 0)},
		"weight from 0 on":   {bundle(0, 0, 10)},
		"weight from -1 on":  {bundle(0, -1, 10)},
		"weight of 100001":   {bundle(0, 100001, 100001)},
		"weight to 100001":   {bundle(0, 1, 100001)},
		"no span":            {bundle(0, 11, 10)},
		"lowest weight":      {bundle(0, lowest, 1)},
		"highest weight":     {bundle(0, 1, highest)},
		"the last of others": append(bundles(), bundle(0, 2, 1)),
	}
}

// P8.4, P8.5
func TestWrongBundles(t *testing.T) {
	for name, l := range wrongBundles() {
		// A bundle that is too heavy, too, or a packing that is wrong, too, comes behind.
		for _, size := range []int{1, 700, 100000} {
			packing, e := tin.Pack(size, l)
			want(t, name, packing, nil, e, api.ErrTinPack)
			weights, e := tin.Sure(size, l, [][]int{{0}})
			want(t, name, weights, nil, e, api.ErrTinPack)
		}
	}
	for _, size := range []int{lowest, -1, 0, 100001, highest} {
		for _, l := range [][]api.TinBundle{nil, bundles(), wrongBundles()["zero"]} {
			packing, e := tin.Pack(size, l)
			want(t, "Pack into "+strconv.Itoa(size), packing, nil, e, api.ErrRange)
			weights, e := tin.Sure(size, l, [][]int{{0}})
			want(t, "Sure of "+strconv.Itoa(size), weights, nil, e, api.ErrRange)
		}
	}
	good := []api.TinBundle{bundle(9, 1, 100000), bundle(0, 100000, 100000)}
	packing, e := tin.Pack(100000, good)
	want(t, "the greatest weights", packing, [][]int{{0}, {1}}, e, api.OK)
}

// P8.5
func TestSure(t *testing.T) {
	for i, x := range []struct {
		packing [][]int
		weights []api.Span
	}{
		{[][]int{{0}, {1}, {2}, {3}, {4}}, []api.Span{{Low: 300, High: 310}, {Low: 400, High: 420}, {Low: 200, High: 200}, {Low: 100, High: 120}, {Low: 500, High: 505}}},
		{[][]int{{0, 2, 3}, {1}, {4}}, []api.Span{{Low: 600, High: 630}, {Low: 400, High: 420}, {Low: 500, High: 505}}},
		{[][]int{{0, 3}, {1, 2}, {4}}, []api.Span{{Low: 400, High: 430}, {Low: 600, High: 620}, {Low: 500, High: 505}}},
		{[][]int{{0}, {1, 2}, {3}, {4}}, []api.Span{{Low: 300, High: 310}, {Low: 600, High: 620}, {Low: 100, High: 120}, {Low: 500, High: 505}}},
	} {
		weights, e := tin.Sure(700, bundles(), x.packing)
		want(t, "Sure "+strconv.Itoa(i), weights, x.weights, e, api.OK)
	}
	weights, e := tin.Sure(1, nil, nil)
	want(t, "Sure of nothing", weights, nil, e, api.OK)
	for name, packing := range map[string][][]int{
		"none": nil, "one is left": {{0, 2}, {1, 3}}, "one is missing": {{0}, {1, 3}, {4}},
		"an empty tin": {{0, 2}, {1, 3}, {}, {4}}, "an empty one first": {{}, {0, 2}, {1, 3}, {4}}, "an empty one last": {{0, 2}, {1, 3}, {4}, nil},
		"twice in a tin": {{0, 0}, {1, 3}, {2}, {4}}, "in two tins": {{0, 2}, {1, 2}, {3}, {4}}, "a tin twice": {{0, 2}, {1, 3}, {4}, {4}},
		"decreasing": {{2, 0}, {1, 3}, {4}}, "tins in another order": {{1, 3}, {0, 2}, {4}}, "the last two": {{0, 2}, {4}, {1, 3}},
		"two grades": {{0, 2}, {1}, {3, 4}}, "too heavy": {{0, 1}, {2, 3}, {4}}, "too heavy at last": {{0}, {1, 2, 3}, {4}},
		"index 5": {{0, 2}, {1, 3}, {4, 5}}, "index 5 alone": {{0, 2}, {1, 3}, {4}, {5}}, "index -1": {{-1, 0, 2}, {1, 3}, {4}}, "index 12": {{0, 2}, {1, 3}, {4}, {12}},
		"lowest": {{lowest}, {0, 2}, {1, 3}, {4}}, "highest": {{0, 2}, {1, 3}, {4, highest}}, "many": slices.Repeat([][]int{{0}}, 1000), "a long one": {numbers(1000, 0)},
	} {
		weights, e := tin.Sure(700, bundles(), packing)
		want(t, name, weights, nil, e, api.ErrTinPack)
	}
	// A tin may be full, but not overfull in any truth; and there is no ErrNone.
	packing := [][]int{{0, 2}, {1, 3}, {4}}
	weights, e = tin.Sure(540, bundles(), packing)
	want(t, "Sure of a full tin", len(weights), 3, e, api.OK)
	weights, e = tin.Sure(539, bundles(), packing)
	want(t, "Sure of an overfull tin", weights, nil, e, api.ErrTinPack)
	weights, e = tin.Sure(309, bundles()[:1], [][]int{{0}})
	want(t, "Sure of one that is too heavy", weights, nil, e, api.ErrTinPack)
	for _, packing := range [][][]int{{{}}, {{0}}, {nil, nil}} {
		weights, e = tin.Sure(700, nil, packing)
		want(t, "Sure of tins with nothing", weights, nil, e, api.ErrTinPack)
	}
	weights, e = tin.Sure(100000, bundlesOf(numbers(12, 8333)...), [][]int{{0, 1, 2, 3, 4, 5, 6, 7, 8, 9, 10, 11}})
	want(t, "Sure of twelve", weights, []api.Span{{Low: 99996, High: 99996}}, e, api.OK)
}

func wrongLists() map[string][]api.Tin {
	return map[string][]api.Tin{
		"zero":              {{}},
		"65 tins":           tins(65),
		"no code":           listWith(0, func(t *api.Tin) { t.Code = "" }),
		"one sign":          listWith(0, func(t *api.Tin) { t.Code = "a" }),
		"a wrong code":      listWith(2, func(t *api.Tin) { t.Code = "aba" }),
		"a code of 18":      listWith(0, func(t *api.Tin) { t.Code = strings.Repeat("a", 18) }),
		"a code with more":  listWith(0, func(t *api.Tin) { t.Code = "abe " }),
		"the same code":     listWith(2, func(t *api.Tin) { t.Code = "abe" }),
		"the next one too":  listWith(1, func(t *api.Tin) { t.Code = "abe" }),
		"grade -1":          listWith(1, func(t *api.Tin) { t.Grade = -1 }),
		"grade 10":          listWith(2, func(t *api.Tin) { t.Grade = 10 }),
		"lowest grade":      listWith(0, func(t *api.Tin) { t.Grade = lowest }),
		"highest grade":     listWith(0, func(t *api.Tin) { t.Grade = highest }),
		"weight 0":          listWith(0, func(t *api.Tin) { t.Weight = 0 }),
		"weight -1":         listWith(0, func(t *api.Tin) { t.Weight = -1 }),
		"weight 100001":     listWith(2, func(t *api.Tin) { t.Weight = 100001 }),
		"lowest weight":     listWith(0, func(t *api.Tin) { t.Weight = lowest }),
		"highest weight":    listWith(0, func(t *api.Tin) { t.Weight = highest }),
		"13 marks":          listWith(0, func(t *api.Tin) { t.Marks = marks(13) }),
		"an empty mark":     listWith(1, func(t *api.Tin) { t.Marks = []string{""} }),
		"no word":           listWith(0, func(t *api.Tin) { t.Marks = []string{"X1"} }),
		"a digit first":     listWith(0, func(t *api.Tin) { t.Marks = []string{"1x"} }),
		"a mark of 17":      listWith(0, func(t *api.Tin) { t.Marks = []string{"abcdefghijklmnopq"} }),
		"a mark with blank": listWith(0, func(t *api.Tin) { t.Marks = []string{"x y"} }),
		"a line feed":       listWith(2, func(t *api.Tin) { t.Marks = []string{"x\n"} }),
		"the last no word":  listWith(0, func(t *api.Tin) { t.Marks = []string{"x1", "x2", "x_3"} }),
		"the same mark":     listWith(0, func(t *api.Tin) { t.Marks = []string{"x1", "x1"} }),
		"decreasing":        listWith(0, func(t *api.Tin) { t.Marks = []string{"x2", "x1"} }),
		"by bytes":          listWith(0, func(t *api.Tin) { t.Marks = []string{"xa", "x0"} }),
		"the longer first":  listWith(0, func(t *api.Tin) { t.Marks = []string{"xx", "x"} }),
	}
}

func goodLists() map[string][]api.Tin {
	return map[string][]api.Tin{
		"example":          list(),
		"none":             nil,
		"64 tins":          tins(64),
		"least":            {{Code: "aa", Grade: 0, Weight: 1}},
		"greatest":         {{Code: code("----------------"), Grade: 9, Weight: 100000, Marks: marks(12)}},
		"signs of codes":   {{Code: code("0"), Weight: 1}, {Code: code("-"), Weight: 1}, {Code: code("9-z"), Weight: 1}},
		"words":            {{Code: "abe", Weight: 7, Marks: []string{"a", "a-", "a-b", "a0", "aa", "abcdefghijklmnop", "b"}}},
		"the same marks":   {{Code: "abe", Weight: 7, Marks: []string{"x"}}, {Code: "aa", Weight: 7, Marks: []string{"x"}}},
		"the same but one": {{Code: "abe", Weight: 7}, {Code: "aa", Weight: 7}},
	}
}

// P8.6
func TestLists(t *testing.T) {
	for name, l := range goodLists() {
		want(t, "Check of "+name, tin.Check(l), api.OK, 0, 0)
	}
	for name, l := range wrongLists() {
		want(t, "Check of "+name, tin.Check(l), api.ErrTinLists, 0, 0)
		for _, mark := range []string{"x1", "nobody", "", "X"} {
			found, e := tin.Find(l, mark)
			want(t, "Find in "+name, found, nil, e, api.ErrTinLists)
		}
		s, e := tin.Print(l)
		want(t, "Print of "+name, s, "", e, api.ErrTinLists)
	}
	for mark, found := range map[string][]int{"x1": {0}, "x2": {0, 2}} {
		l, e := tin.Find(list(), mark)
		want(t, "Find of "+mark, l, found, e, api.OK)
	}
	l, e := tin.Find([]api.Tin{{Code: "aa", Weight: 1}, {Code: "bc", Weight: 1, Marks: marks(12)}}, "ml")
	want(t, "Find of the last one", l, []int{1}, e, api.OK)
	for _, mark := range []string{"x", "x3", "x11", "", "X1", "abe", "tin", " ", "x1 x2", strings.Repeat("x", 1000)} {
		l, e := tin.Find(list(), mark)
		want(t, "Find of "+mark, l, nil, e, api.ErrNone)
	}
	l, e = tin.Find(nil, "x1")
	want(t, "Find in nothing", l, nil, e, api.ErrNone)
}

const text = "tin abe 1 500 x1 x2\ntin bc 0 1\ntin aci 9 100000 x2\n"

// P8.6, P8.11
func TestTexts(t *testing.T) {
	s, e := tin.Print(list())
	want(t, "Print", s, text, e, api.OK)
	l, e := tin.Parse(text)
	want(t, "Parse", l, list(), e, api.OK)
	s, e = tin.Print(nil)
	want(t, "Print of nothing", s, "", e, api.OK)
	l, e = tin.Parse("")
	want(t, "Parse of an empty text", l, nil, e, api.OK)
	for name, list := range goodLists() {
		s, e := tin.Print(list)
		if e != api.OK {
			t.Errorf("%s: Print: %d", name, e)
		}
		l, e := tin.Parse(s)
		want(t, name, l, list, e, api.OK)
	}
	s, e = tin.Print(goodLists()["greatest"])
	want(t, "Print", s, "tin ----------------v 9 100000 ma mb mc md me mf mg mh mi mj mk ml\n", e, api.OK)
	s, e = tin.Print(goodLists()["least"])
	want(t, "Print", s, "tin aa 0 1\n", e, api.OK)
}

// P8.6
func TestWrongTexts(t *testing.T) {
	for _, s := range []string{
		"tin abe 1 500 x1 x2", "tin abe 1 500", "tin", "tin\n", "tin \n", "tin abe\n", "tin abe 1\n", "tin abe 1 \n", "tin 1 500\n", "abe 1 500\n",
		"tin abe 1 500 \n", "tin abe 1 500 x1 \n", "tin abe 1 500  x1\n", " tin abe 1 500\n", "tin  abe 1 500\n", "tin abe  1 500\n", "tin abe 1  500\n", "tin\tabe 1 500\n", "tin abe 1 500\tx1\n",
		"Tin abe 1 500\n", "tins abe 1 500\n", "box abe 1 500\n", "tin aba 1 500\n", "tin  1 500\n", "tin a 1 500\n", "tin Abe 1 500\n", "tin abé 1 500\n", "tin aaaaaaaaaaaaaaaaaa 1 500\n",
		"tin abe 10 500\n", "tin abe -1 500\n", "tin abe 01 500\n", "tin abe +1 500\n", "tin abe -0 500\n", "tin abe 00 500\n", "tin abe x 500\n", "tin abe 1. 500\n", "tin abe 0x1 500\n", "tin abe 1_0 500\n", "tin abe 18446744073709551617 500\n",
		"tin abe 1 0\n", "tin abe 1 -500\n", "tin abe 1 0500\n", "tin abe 1 +500\n", "tin abe 1 100001\n", "tin abe 1 5e2\n", "tin abe 1 x1\n", "tin abe 1 99999999999999999999999999\n", "tin abe 500 1\n",
		"tin abe 1 500 X1\n", "tin abe 1 500 1\n", "tin abe 1 500 x1 x1\n", "tin abe 1 500 x2 x1\n", "tin abe 1 500 abcdefghijklmnopq\n", "tin abe 1 500 x1,x2\n", "tin abe 1 500 ma mb mc md me mf mg mh mi mj mk ml mm\n",
		"tin abe 1 500\ntin abe 1 500\n", "tin abe 1 500\ntin bc 0 1", "tin abe 1 500\r\n", "tin abe 1 500\n\n", "\ntin abe 1 500\n", "tin abe 1 500\n ", "tin abe 1\n500\n", "tin abe 1 500 tin bc 0 1\n", "tin abe 1 500\x00\n",
		"\n", " ", "\x00", text + text, text + "x", strings.Repeat("a", api.MaxFile), strings.Repeat(" ", api.MaxFile), strings.Repeat("\n", api.MaxFile),
		lines(65),
	} {
		l, e := tin.Parse(s)
		want(t, "Parse of "+s[:min(len(s), 40)], l, nil, e, api.ErrForm)
	}
	for _, s := range []string{strings.Repeat("a", api.MaxFile+1), strings.Repeat("tin abe 1 500\n", api.MaxFile)} {
		l, e := tin.Parse(s)
		want(t, "Parse of a long text", l, nil, e, api.ErrLimit)
	}
	l, e := tin.Parse(lines(64))
	want(t, "Parse of 64 lines", l, tins(64), e, api.OK)
}

// lines is a text of so many tins.
func lines(many int) string {
	var b strings.Builder
	for _, t := range tins(many) {
		b.WriteString("tin " + t.Code + " " + strconv.Itoa(t.Grade) + " " + strconv.Itoa(t.Weight) + "\n")
	}
	return b.String()
}

// overwrite changes all that lies in lists, and appends to each of them.
func overwrite(lists [][]int) {
	for _, l := range lists {
		for i := range l {
			l[i] = -7
		}
		_ = append(l, -7, -7, -7)
	}
}

// copies returns new lists of the same numbers.
func copies(lists [][]int) [][]int {
	var l [][]int
	for _, x := range lists {
		l = append(l, slices.Clone(x))
	}
	return l
}

// P8.7, P2: arguments stay as they are, and a result that is changed changes no other one, nor another part of it.
func TestMemory(t *testing.T) {
	p, b, l := pods(), bundles(), list()
	packing := [][]int{{0, 2}, {1, 3}, {4}}
	for name, call := range map[string]func() any{
		"Near": func() any {
			l, _ := tin.Near("ea")
			kept := slices.Clone(l)
			clear(l)
			return kept
		},
		"Sort": func() any {
			l, _ := tin.Sort(rule(), p)
			kept := copies(l)
			overwrite(l[1:])
			if !slices.Equal(l[0], kept[0]) {
				t.Errorf("Sort: a bundle became %v with another one", l[0])
			}
			overwrite(l)
			return kept
		},
		"Pack": func() any {
			l, _ := tin.Pack(700, b)
			kept := copies(l)
			for i := range l {
				overwrite(l[i : i+1])
				if !reflect.DeepEqual(l[i+1:], kept[i+1:]) {
					t.Errorf("Pack: tins became %v with another one", l[i+1:])
				}
			}
			return kept
		},
		"Sure": func() any {
			l, _ := tin.Sure(700, b, packing)
			kept := slices.Clone(l)
			clear(l)
			return kept
		},
		"Find": func() any {
			found, _ := tin.Find(l, "x2")
			kept := slices.Clone(found)
			clear(found)
			return kept
		},
		"Parse": func() any {
			l, _ := tin.Parse(text)
			kept := slices.Clone(l)
			for i := range kept {
				kept[i].Marks = slices.Clone(l[i].Marks)
				clear(l[i].Marks)
				_ = append(l[i].Marks, "x9")
			}
			clear(l)
			return kept
		},
	} {
		first := call()
		if again := call(); !reflect.DeepEqual(first, again) {
			t.Errorf("%s: %v, and then %v", name, first, again)
		}
	}
	tin.Check(l)
	tin.Print(l)
	if now := []any{p, b, l, packing}; !reflect.DeepEqual(now, []any{pods(), bundles(), list(), [][]int{{0, 2}, {1, 3}, {4}}}) {
		t.Errorf("arguments changed: %v", now)
	}
}

// P8.7: nothing of an argument is kept, nor written behind it.
func TestNothingIsRetained(t *testing.T) {
	p := append(make([]int, 0, 16), pods()...)
	b := append(make([]api.TinBundle, 0, 16), bundles()...)
	l := append(make([]api.Tin, 0, 16), list()...)
	l[0].Marks = append(make([]string, 0, 16), l[0].Marks...)
	sorting, _ := tin.Sort(rule(), p)
	packing, _ := tin.Pack(700, b)
	weights, _ := tin.Sure(700, b, packing)
	found, _ := tin.Find(l, "x2")
	tin.Print(l)
	kept := []any{copies(sorting), copies(packing), slices.Clone(weights), slices.Clone(found)}
	if p[:16][8] != 0 || b[:16][5] != (api.TinBundle{}) || l[:16][3].Code != "" || l[0].Marks[:16][2] != "" {
		t.Error("something was written behind an argument")
	}
	clear(p)
	clear(b)
	clear(l[0].Marks)
	clear(l)
	if now := []any{sorting, packing, weights, found}; !reflect.DeepEqual(now, kept) {
		t.Errorf("results changed from %v to %v", kept, now)
	}
}

// P1: no function panics, whatever the arguments are.
func TestAnyArguments(t *testing.T) {
	r := rand.New(rand.NewPCG(8, 80))
	n := func() int {
		return []int{lowest, -1, 0, 1, 2, 3, 5, 9, 10, 20, 21, 150, 400, 401, 700, 100000, 100001, highest}[r.IntN(18)]
	}
	w := func() string {
		return []string{"", "a", "aa", "abe", "bc", "x1", "\x00", "A", "-", "é", "ab\xff"}[r.IntN(11)]
	}
	for range 5000 {
		p, b, l := pods(), bundles(), list()
		p[r.IntN(8)] = n()
		b[r.IntN(5)] = bundle(n(), n(), n())
		l[r.IntN(3)] = api.Tin{Code: w(), Grade: n(), Weight: n(), Marks: []string{w(), w()}}
		packing := [][]int{{n(), n()}, {0, 2}, {1, 3}, {4}}[r.IntN(2):]
		size := n()
		s := w() + w() + w()
		sign, e := tin.Sign(s)
		if e == api.OK != (len(sign) == 1) || e != api.OK && e != api.ErrTinCode {
			t.Errorf("Sign of %q: %q, %d", s, sign, e)
		}
		tin.IsCode(s)
		tin.Near(s)
		if sorting, e := tin.Sort(api.TinRule{Many: n(), Band: n(), Wrong: n()}, p); e != api.OK && (e != api.ErrTinPods || sorting != nil) {
			t.Errorf("Sort of %v: %v, %d", p, sorting, e)
		}
		if packed, e := tin.Pack(size, b); e != api.OK && packed != nil {
			t.Errorf("Pack of %v into %d: %v, %d", b, size, packed, e)
		}
		if weights, e := tin.Sure(size, b, packing); e != api.OK && weights != nil {
			t.Errorf("Sure of %v in %d: %v, %d", b, size, weights, e)
		}
		e = tin.Check(l)
		text, wrong := tin.Print(l)
		want(t, "Print", text == "", e != api.OK, wrong, e)
		tin.Find(l, w())
		tin.Parse("tin " + s + " " + strconv.Itoa(n()) + " " + strconv.Itoa(n()) + " " + w() + "\n")
	}
}
