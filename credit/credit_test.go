package credit_test

import (
	"math/rand/v2"
	"reflect"
	"slices"
	"strconv"
	"strings"
	"testing"

	"rostellum/api"
	"rostellum/credit"
)

const lowest, highest = -1 << 63, 1<<63 - 1

// ledger is that of the document's examples.
func ledger() api.Ledger {
	return api.Ledger{
		Parties: []api.Party{{Name: "mo", Cash: 15}, {Name: "lu"}, {Name: "ka", Cash: 5}},
		Debts:   []api.Debt{debt(0, 1, 30), debt(1, 0, 10), debt(1, 2, 30), debt(2, 0, 5)},
	}
}

func debt(from, to, cents int) api.Debt { return api.Debt{From: from, To: to, Cents: cents} }

// ledgerOf has parties with some cash, and debts.
func ledgerOf(cash []int, debts ...api.Debt) api.Ledger {
	l := api.Ledger{Debts: debts}
	for i, c := range cash {
		l.Parties = append(l.Parties, api.Party{Name: "p" + strconv.Itoa(i), Cash: c})
	}
	return l
}

// ledgerWith is the ledger of the examples, which is changed.
func ledgerWith(change func(l *api.Ledger)) api.Ledger {
	l := ledger()
	change(&l)
	return l
}

// ring is parties of which each owes the next one, and the last one the first one, so many cents.
func ring(cash []int, cents int) api.Ledger {
	l := ledgerOf(cash)
	for i := range cash {
		l.Debts = append(l.Debts, debt(i, (i+1)%len(cash), cents))
	}
	return l
}

// numbers are so many times the same number.
func numbers(many, n int) []int { return slices.Repeat([]int{n}, many) }

// want compares a result; a nil list and an empty one are the same.
func want[T any](t *testing.T, name string, got, wanted T, e, code api.Errno) {
	t.Helper()
	if e != code {
		t.Errorf("%s: error %d instead of %d", name, e, code)
	}
	if v := reflect.ValueOf(got); v.Kind() == reflect.Slice && v.Len() == 0 && reflect.ValueOf(wanted).Len() == 0 {
		return
	}
	if !reflect.DeepEqual(got, wanted) {
		t.Errorf("%s: %v instead of %v", name, got, wanted)
	}
}

func TestExamples(t *testing.T) {
	parts, has, e := credit.Pay(ledger(), []int{15, 15, 5})
	want(t, "Pay", parts, []int{15, 3, 11, 5}, e, api.OK)
	want(t, "what they have", has, []int{23, 15, 16}, e, api.OK)
	pays, parts, e := credit.Clear(ledger())
	want(t, "Clear", pays, []int{26, 26, 5}, e, api.OK)
	want(t, "parts of Clear", parts, []int{26, 6, 19, 5}, e, api.OK)
	left, e := credit.Left(ledger())
	want(t, "Left", left, []int{0, 1, 19}, e, api.OK)
	short, e := credit.Short(ledger())
	want(t, "Short", short, []int{0, 1}, e, api.OK)
	for party, code := range []api.Errno{api.ErrNone, api.OK, api.ErrNone} {
		cash, e := credit.Rescue(ledger(), party)
		want(t, "Rescue of "+strconv.Itoa(party), cash, []int{0, 10, 0}[party], e, code)
	}
	gets, e := credit.Share(100, []int{1, 1, 1})
	want(t, "Share of 100", gets, []int{34, 33, 33}, e, api.OK)
	gets, e = credit.Share(10, []int{5, 3, 1})
	want(t, "Share of 10", gets, []int{6, 3, 1}, e, api.OK)
}

func wrongLedgers() map[string]api.Ledger {
	return map[string]api.Ledger{
		"zero":               {},
		"no parties":         {Debts: ledger().Debts},
		"9 parties":          ledgerOf(numbers(9, 1)),
		"no name":            ledgerWith(func(l *api.Ledger) { l.Parties[0].Name = "" }),
		"no word":            ledgerWith(func(l *api.Ledger) { l.Parties[2].Name = "Ka" }),
		"a digit first":      ledgerWith(func(l *api.Ledger) { l.Parties[1].Name = "1u" }),
		"a name of 17":       ledgerWith(func(l *api.Ledger) { l.Parties[0].Name = "abcdefghijklmnopq" }),
		"the same name":      ledgerWith(func(l *api.Ledger) { l.Parties[2].Name = "mo" }),
		"the next one's":     ledgerWith(func(l *api.Ledger) { l.Parties[1].Name = "mo" }),
		"cash -1":            ledgerWith(func(l *api.Ledger) { l.Parties[1].Cash = -1 }),
		"cash 100001":        ledgerWith(func(l *api.Ledger) { l.Parties[2].Cash = 100001 }),
		"lowest cash":        ledgerWith(func(l *api.Ledger) { l.Parties[0].Cash = lowest }),
		"highest cash":       ledgerWith(func(l *api.Ledger) { l.Parties[0].Cash = highest }),
		"17 debts":           manyDebts(17),
		"from -1":            ledgerWith(func(l *api.Ledger) { l.Debts[0].From = -1 }),
		"from 3":             ledgerWith(func(l *api.Ledger) { l.Debts[3].From = 3 }),
		"from lowest":        ledgerWith(func(l *api.Ledger) { l.Debts[0].From = lowest }),
		"from highest":       ledgerWith(func(l *api.Ledger) { l.Debts[0].From = highest }),
		"to -1":              ledgerWith(func(l *api.Ledger) { l.Debts[1].To = -1 }),
		"to 3":               ledgerWith(func(l *api.Ledger) { l.Debts[0].To = 3 }),
		"to lowest":          ledgerWith(func(l *api.Ledger) { l.Debts[0].To = lowest }),
		"to highest":         ledgerWith(func(l *api.Ledger) { l.Debts[3].To = highest }),
		"to the same":        ledgerWith(func(l *api.Ledger) { l.Debts[2].To = 1 }),
		"only to the same":   ledgerOf([]int{1}, debt(0, 0, 1)),
		"0 cents":            ledgerWith(func(l *api.Ledger) { l.Debts[0].Cents = 0 }),
		"-1 cents":           ledgerWith(func(l *api.Ledger) { l.Debts[3].Cents = -1 }),
		"100001 cents":       ledgerWith(func(l *api.Ledger) { l.Debts[1].Cents = 100001 }),
		"lowest cents":       ledgerWith(func(l *api.Ledger) { l.Debts[0].Cents = lowest }),
		"highest cents":      ledgerWith(func(l *api.Ledger) { l.Debts[0].Cents = highest }),
		"the same debt":      ledgerWith(func(l *api.Ledger) { l.Debts[3] = l.Debts[0] }),
		"with other cents":   ledgerWith(func(l *api.Ledger) { l.Debts[3] = debt(0, 1, 7) }),
		"the next one's too": ledgerWith(func(l *api.Ledger) { l.Debts[1] = debt(0, 1, 7) }),
	}
}

// manyDebts is a ledger of 8 parties and so many debts.
func manyDebts(many int) api.Ledger {
	l := ledgerOf(numbers(8, 100000))
	for i := range many {
		l.Debts = append(l.Debts, debt(i%8, (i+1+i/8)%8, 100000))
	}
	return l
}

// P9.1
func TestCheck(t *testing.T) {
	for name, l := range map[string]api.Ledger{
		"example":           ledger(),
		"one party":         ledgerOf([]int{0}),
		"the greatest":      manyDebts(16),
		"the least":         ledgerOf([]int{0, 0}, debt(0, 1, 1)),
		"both ways":         ledgerOf([]int{0, 0}, debt(0, 1, 1), debt(1, 0, 1)),
		"the longest names": {Parties: []api.Party{{Name: "abcdefghijklmnop"}, {Name: "abcdefghijklmnoq", Cash: 100000}}},
		"the same but one":  {Parties: []api.Party{{Name: "a-1", Cash: 7}, {Name: "a-2", Cash: 7}}},
	} {
		want(t, "Check of "+name, credit.Check(l), api.OK, 0, 0)
	}
	for name, l := range wrongLedgers() {
		want(t, "Check of "+name, credit.Check(l), api.ErrCredit, 0, 0)
		// What comes behind is wrong, too.
		parts, has, e := credit.Pay(l, []int{-1})
		want(t, "Pay in "+name, parts, nil, e, api.ErrCredit)
		want(t, "Pay in "+name, has, nil, e, api.ErrCredit)
		pays, parts, e := credit.Clear(l)
		want(t, "Clear of "+name, pays, nil, e, api.ErrCredit)
		want(t, "Clear of "+name, parts, nil, e, api.ErrCredit)
		left, e := credit.Left(l)
		want(t, "Left of "+name, left, nil, e, api.ErrCredit)
		short, e := credit.Short(l)
		want(t, "Short of "+name, short, nil, e, api.ErrCredit)
		for _, party := range []int{0, -1, 9} {
			cash, e := credit.Rescue(l, party)
			want(t, "Rescue in "+name, cash, 0, e, api.ErrCredit)
		}
	}
}

// P9.2
func TestPay(t *testing.T) {
	for i, x := range []struct {
		l                api.Ledger
		pays, parts, has []int
	}{
		{ledger(), []int{0, 0, 0}, []int{0, 0, 0, 0}, []int{15, 0, 5}},
		// all that is owed, whether or not it is there
		{ledger(), []int{30, 40, 5}, []int{30, 10, 30, 5}, []int{30, 30, 35}},
		{ledger(), []int{1, 3, 5}, []int{1, 0, 2, 5}, []int{20, 1, 7}},
		{ledger(), []int{29, 39, 4}, []int{29, 9, 29, 4}, []int{28, 29, 34}},
		// who owes nothing pays nothing
		{ledgerOf([]int{7}), []int{0}, nil, []int{7}},
		{ledgerOf([]int{7, 8}, debt(1, 0, 9)), []int{0, 8}, []int{8}, []int{15, 8}},
		{ledgerOf([]int{0, 0, 0}, debt(0, 1, 1), debt(0, 2, 2)), []int{2, 0, 0}, []int{0, 1}, []int{0, 0, 1}},
		{ledgerOf([]int{0, 0, 0}, debt(0, 2, 2), debt(0, 1, 1)), []int{1, 0, 0}, []int{0, 0}, []int{0, 0, 0}},
		// the greatest amounts
		{star(100000), []int{700000, 0, 0, 0, 0, 0, 0, 0}, numbers(7, 100000), append([]int{100000}, numbers(7, 200000)...)},
		{star(100000), []int{699999, 0, 0, 0, 0, 0, 0, 0}, numbers(7, 99999), append([]int{100000}, numbers(7, 199999)...)},
	} {
		parts, has, e := credit.Pay(x.l, x.pays)
		want(t, "Pay "+strconv.Itoa(i), parts, x.parts, e, api.OK)
		want(t, "what they have "+strconv.Itoa(i), has, x.has, e, api.OK)
	}
	for name, pays := range map[string][]int{
		"none": nil, "two": {15, 15}, "four": {15, 15, 5, 0}, "many": numbers(1000, 0),
		"-1": {-1, 15, 5}, "the last -1": {15, 15, -1}, "lowest": {15, lowest, 5},
		"31 of 30": {31, 15, 5}, "41 of 40": {15, 41, 5}, "6 of 5": {15, 15, 6}, "highest": {highest, 15, 5},
	} {
		parts, has, e := credit.Pay(ledger(), pays)
		want(t, name, parts, nil, e, api.ErrRange)
		want(t, name, has, nil, e, api.ErrRange)
	}
	parts, has, e := credit.Pay(ledgerOf([]int{7, 8}, debt(1, 0, 9)), []int{1, 0})
	want(t, "Pay of who owes nothing", parts, nil, e, api.ErrRange)
	want(t, "Pay of who owes nothing", has, nil, e, api.ErrRange)
}

// star is one party that owes all other ones so many cents.
func star(cents int) api.Ledger {
	l := ledgerOf(numbers(8, 100000))
	for i := 1; i < 8; i++ {
		l.Debts = append(l.Debts, debt(0, i, cents))
	}
	return l
}

// P9.2, P9.3
func TestClear(t *testing.T) {
	leak := ring(numbers(7, 0), 100000)
	leak.Parties = append(leak.Parties, api.Party{Name: "church"})
	leak.Debts = append(leak.Debts, debt(0, 7, 1))
	sealed := ring(append([]int{1}, numbers(6, 0)...), 100000)
	sealed.Parties, sealed.Debts = append(sealed.Parties, api.Party{Name: "church"}), leak.Debts
	for name, x := range map[string]struct {
		l                        api.Ledger
		pays, parts, left, short []int
	}{
		"one party":    {ledgerOf([]int{7}), []int{0}, nil, []int{7}, nil},
		"no debts":     {ledgerOf([]int{7, 0, 9}), []int{0, 0, 0}, nil, []int{7, 0, 9}, nil},
		"just enough":  {ledgerOf([]int{7, 0}, debt(0, 1, 7)), []int{7, 0}, []int{7}, []int{0, 7}, nil},
		"a cent short": {ledgerOf([]int{6, 0}, debt(0, 1, 7)), []int{6, 0}, []int{6}, []int{0, 6}, []int{0}},
		"no cash":      {ledgerOf([]int{0, 0}, debt(0, 1, 7)), []int{0, 0}, []int{0}, []int{0, 0}, []int{0}},
		// of all payments that settle, the greatest ones
		"a ring without cash": {ring([]int{0, 0, 0}, 7), []int{7, 7, 7}, []int{7, 7, 7}, []int{0, 0, 0}, nil},
		"two rings":           {ledgerOf([]int{0, 0, 0, 0}, debt(0, 1, 5), debt(1, 0, 5), debt(2, 3, 6), debt(3, 2, 7)), []int{5, 5, 6, 6}, []int{5, 5, 6, 6}, numbers(4, 0), []int{3}},
		"handed on":           {ledgerOf([]int{5, 0, 0}, debt(0, 1, 5), debt(1, 2, 5)), []int{5, 5, 0}, []int{5, 5}, []int{0, 0, 5}, nil},
		"by others":           {ledgerOf([]int{5, 0, 0}, debt(1, 2, 9), debt(0, 1, 8)), []int{5, 5, 0}, []int{5, 5}, []int{0, 0, 5}, []int{0, 1}},
		// what is rounded down stays with who pays
		"halves":       {ledgerOf([]int{1, 0, 0}, debt(0, 1, 1), debt(0, 2, 1)), []int{1, 0, 0}, []int{0, 0}, []int{1, 0, 0}, []int{0}},
		"who is short": {ledgerOf([]int{6, 0, 0}, debt(0, 1, 4), debt(0, 2, 4)), []int{6, 0, 0}, []int{3, 3}, []int{0, 3, 3}, []int{0}},
		"the last one": {ledgerOf([]int{9, 0, 3}, debt(2, 0, 2), debt(2, 1, 2)), []int{0, 0, 3}, []int{1, 1}, []int{10, 1, 1}, []int{2}},
		// a cent is lost in each turn of the ring, until there is none
		"a leak":         {leak, numbers(8, 0), numbers(8, 0), numbers(8, 0), []int{0, 1, 2, 3, 4, 5, 6}},
		"a leak, sealed": {sealed, []int{100001, 100000, 100000, 100000, 100000, 100000, 100000, 0}, append(numbers(7, 100000), 1), []int{0, 0, 0, 0, 0, 0, 0, 1}, nil},
		"the greatest":   {manyDebts(16), numbers(8, 200000), numbers(16, 100000), numbers(8, 100000), nil},
		"a star":         {star(100000), []int{100000, 0, 0, 0, 0, 0, 0, 0}, numbers(7, 14285), append([]int{5}, numbers(7, 114285)...), []int{0}},
	} {
		pays, parts, e := credit.Clear(x.l)
		want(t, "Clear of "+name, pays, x.pays, e, api.OK)
		want(t, "parts of "+name, parts, x.parts, e, api.OK)
		left, e := credit.Left(x.l)
		want(t, "Left of "+name, left, x.left, e, api.OK)
		short, e := credit.Short(x.l)
		want(t, "Short of "+name, short, x.short, e, api.OK)
	}
}

// P9.4
func TestRescue(t *testing.T) {
	for i, x := range []struct {
		l    api.Ledger
		cash []int // of each party; -1: no cash suffices
	}{
		// nobody is short anyway
		{ledgerOf([]int{0}), []int{0}},
		{ledgerOf([]int{5, 0}, debt(0, 1, 5)), []int{0, 0}},
		{ring([]int{0, 0, 0}, 7), []int{0, 0, 0}},
		{manyDebts(16), numbers(8, 0)},
		// only who is short can be rescued
		{ledgerOf([]int{4, 0}, debt(0, 1, 5)), []int{1, -1}},
		{ledgerOf([]int{0, 9}, debt(0, 1, 5)), []int{5, -1}},
		{ledgerOf([]int{0, 0, 0}, debt(0, 1, 5), debt(1, 2, 5)), []int{5, -1, -1}},
		{ledgerOf([]int{4, 0, 0}, debt(0, 1, 5), debt(1, 2, 7)), []int{-1, -1, -1}},
		{ledgerOf([]int{5, 0, 0}, debt(0, 1, 5), debt(1, 2, 7)), []int{-1, 2, -1}},
		{ledgerOf([]int{0, 2, 0}, debt(0, 1, 5), debt(1, 2, 7)), []int{5, -1, -1}},
		{ledgerOf([]int{0, 0, 0}, debt(0, 2, 5), debt(1, 2, 5)), []int{-1, -1, -1}},
		// what others pay, because there is more cash, helps too
		{ledgerOf([]int{0, 0}, debt(0, 1, 9), debt(1, 0, 5)), []int{4, -1}},
		// as much as all debts are together
		{ledgerOf([]int{0, 0, 0}, debt(0, 1, 5), debt(0, 2, 6)), []int{11, -1, -1}},
		{star(100000), []int{600000, -1, -1, -1, -1, -1, -1, -1}},
	} {
		for party, cash := range x.cash {
			code := api.OK
			if cash < 0 {
				cash, code = 0, api.ErrNone
			}
			got, e := credit.Rescue(x.l, party)
			want(t, "Rescue "+strconv.Itoa(i)+" of "+strconv.Itoa(party), got, cash, e, code)
		}
	}
	for _, party := range []int{lowest, -1, 3, 8, highest} {
		cash, e := credit.Rescue(ledger(), party)
		want(t, "Rescue of "+strconv.Itoa(party), cash, 0, e, api.ErrCreditParty)
		cash, e = credit.Rescue(ring([]int{0, 0, 0}, 7), party)
		want(t, "Rescue of "+strconv.Itoa(party), cash, 0, e, api.ErrCreditParty)
	}
}

// P9.5
func TestShare(t *testing.T) {
	for i, x := range []struct {
		sum          int
		shares, gets []int
	}{
		{0, []int{1}, []int{0}},
		{0, []int{3, 0, 1000}, []int{0, 0, 0}},
		{1000000, []int{1}, []int{1000000}},
		{1000000, []int{1000}, []int{1000000}},
		{1000000, numbers(8, 1000), numbers(8, 125000)},
		{999999, numbers(8, 1000), append(numbers(7, 125000), 124999)},
		{1000000, []int{1000, 999, 1}, []int{500000, 499500, 500}},
		// a share of nothing gets nothing
		{7, []int{0, 1, 0}, []int{0, 7, 0}},
		{1, []int{0, 0, 1, 1}, []int{0, 0, 1, 0}},
		// equal ones: the first ones
		{1, []int{1, 1}, []int{1, 0}},
		{2, []int{5, 5, 5}, []int{1, 1, 0}},
		{101, []int{1, 1, 1}, []int{34, 34, 33}},
		{3, []int{3, 1, 1, 1}, []int{2, 1, 0, 0}}, // 1 and a half, and half a cent each
		{3, []int{1, 1, 1, 3}, []int{1, 1, 0, 1}},
		// others: by how much was rounded down, and not by how great they are
		{10, []int{1, 3, 5}, []int{1, 3, 6}},
		{10, []int{7, 5}, []int{6, 4}},       // 5 and 10/12, 4 and 2/12
		{10, []int{5, 7}, []int{4, 6}},       // the second one
		{1, []int{1, 2, 3}, []int{0, 0, 1}},  // 1/6, 2/6, 3/6
		{2, []int{1, 2, 3}, []int{0, 1, 1}},  // 2/6, 4/6, 6/6
		{5, []int{2, 3, 1}, []int{2, 2, 1}},  // 10/6, 15/6, 5/6: the last one was rounded down by most
		{100, []int{999, 1}, []int{100, 0}},  // 99.9 and 0.1
		{100, []int{995, 5}, []int{100, 0}},  // 99.5 and 0.5
		{100, []int{5, 995}, []int{1, 99}},   // 0.5 and 99.5
		{8, []int{5, 3, 5}, []int{3, 2, 3}},  // 40/13, 24/13, 40/13
		{7, []int{5, 3, 5}, []int{3, 1, 3}},  // 35/13 (9 of 13 left), 21/13 (8), 35/13 (9)
		{9, []int{5, 3, 5}, []int{4, 2, 3}},  // 45/13 (6), 27/13 (1), 45/13 (6)
		{12, []int{5, 3, 5}, []int{5, 3, 4}}, // 60/13 (8), 36/13 (10), 60/13 (8)
	} {
		gets, e := credit.Share(x.sum, x.shares)
		want(t, "Share "+strconv.Itoa(i), gets, x.gets, e, api.OK)
	}
	wrong := map[string][]int{
		"none": nil, "9 shares": numbers(9, 1), "many": numbers(1000, 1), "all 0": {0, 0, 0}, "0 alone": {0}, "8 of 0": numbers(8, 0),
		"-1": {-1}, "-1 among others": {5, -1, 5}, "1001": {1001}, "the last 1001": {1, 1, 1001}, "lowest": {1, lowest}, "highest": {highest, 1},
		"together 0": {-1, 1}, "together 0 again": {highest, 1, lowest},
	}
	for name, shares := range wrong {
		for _, sum := range []int{0, 100, 1000000} {
			gets, e := credit.Share(sum, shares)
			want(t, name, gets, nil, e, api.ErrCreditShare)
		}
	}
	wrong["good ones"] = []int{1, 1}
	for _, sum := range []int{lowest, -1, 1000001, highest} {
		for name, shares := range wrong {
			gets, e := credit.Share(sum, shares)
			want(t, name+" of "+strconv.Itoa(sum), gets, nil, e, api.ErrRange)
		}
	}
}

// calls are those of all functions with lists as results.
func calls(l api.Ledger, pays, shares []int) map[string]func() [][]int {
	return map[string]func() [][]int{
		"Pay": func() [][]int {
			parts, has, _ := credit.Pay(l, pays)
			return [][]int{parts, has}
		},
		"Clear": func() [][]int {
			pays, parts, _ := credit.Clear(l)
			return [][]int{pays, parts}
		},
		"Left": func() [][]int {
			left, _ := credit.Left(l)
			return [][]int{left}
		},
		"Short": func() [][]int {
			short, _ := credit.Short(l)
			return [][]int{short}
		},
		"Share": func() [][]int {
			gets, _ := credit.Share(10, shares)
			return [][]int{gets}
		},
	}
}

// copies returns new lists of the same numbers.
func copies(lists [][]int) [][]int {
	var l [][]int
	for _, x := range lists {
		l = append(l, slices.Clone(x))
	}
	return l
}

// P9.6, P2: arguments stay as they are, and a result that is changed changes no other one, nor another part of it.
func TestMemory(t *testing.T) {
	l, pays, shares := ledger(), []int{15, 15, 5}, []int{5, 3, 1}
	for name, call := range calls(l, pays, shares) {
		first := call()
		kept := copies(first)
		for i := range first {
			clear(first[i])
			_ = append(first[i], -7, -7, -7)
			if !reflect.DeepEqual(first[i+1:], kept[i+1:]) {
				t.Errorf("%s: %v became %v", name, kept[i+1:], first[i+1:])
			}
		}
		if again := call(); !reflect.DeepEqual(again, kept) {
			t.Errorf("%s: %v, and then %v", name, kept, again)
		}
	}
	credit.Check(l)
	for party := range l.Parties {
		credit.Rescue(l, party)
	}
	if now := []any{l, pays, shares}; !reflect.DeepEqual(now, []any{ledger(), []int{15, 15, 5}, []int{5, 3, 1}}) {
		t.Errorf("arguments changed: %v", now)
	}
}

// P9.6: nothing of an argument is kept, nor written behind it.
func TestNothingIsRetained(t *testing.T) {
	l := api.Ledger{Parties: append(make([]api.Party, 0, 16), ledger().Parties...), Debts: append(make([]api.Debt, 0, 16), ledger().Debts...)}
	pays := append(make([]int, 0, 16), 15, 15, 5)
	shares := append(make([]int, 0, 16), 5, 3, 1)
	results, kept := map[string][][]int{}, map[string][][]int{}
	for name, call := range calls(l, pays, shares) {
		results[name] = call()
		kept[name] = copies(results[name])
	}
	credit.Rescue(l, 1)
	if l.Parties[:16][3] != (api.Party{}) || l.Debts[:16][4] != (api.Debt{}) || pays[:16][3] != 0 || shares[:16][3] != 0 {
		t.Error("something was written behind an argument")
	}
	clear(l.Parties)
	clear(l.Debts)
	clear(pays)
	clear(shares)
	if !reflect.DeepEqual(results, kept) {
		t.Errorf("results changed from %v to %v", kept, results)
	}
}

// P1: no function panics, whatever the arguments are.
func TestAnyArguments(t *testing.T) {
	r := rand.New(rand.NewPCG(9, 90))
	n := func() int {
		return []int{lowest, -1, 0, 1, 2, 3, 5, 7, 8, 30, 40, 1000, 1001, 100000, 100001, 1000000, 1000001, highest}[r.IntN(18)]
	}
	few := func() []int {
		l := make([]int, r.IntN(5))
		for i := range l {
			l[i] = n()
		}
		return l
	}
	for range 20000 {
		l := ledger()
		l.Parties[r.IntN(3)] = api.Party{Name: []string{"", "mo", "lu", "x", "\x00", "é", strings.Repeat("a", 17)}[r.IntN(7)], Cash: n()}
		l.Debts[r.IntN(4)] = debt(n(), n(), n())
		l.Parties = l.Parties[r.IntN(2):]
		e := credit.Check(l)
		if parts, has, code := credit.Pay(l, few()); code != api.OK && (parts != nil || has != nil) || e != api.OK && code != e {
			t.Errorf("Pay in %v: %v, %v, %d", l, parts, has, code)
		}
		if pays, parts, code := credit.Clear(l); code != e || e != api.OK && (pays != nil || parts != nil) {
			t.Errorf("Clear of %v: %v, %v, %d", l, pays, parts, code)
		}
		if left, code := credit.Left(l); code != e || e != api.OK && left != nil {
			t.Errorf("Left of %v: %v, %d", l, left, code)
		}
		if short, code := credit.Short(l); code != e || e != api.OK && short != nil {
			t.Errorf("Short of %v: %v, %d", l, short, code)
		}
		if cash, code := credit.Rescue(l, n()); code != api.OK && cash != 0 || e != api.OK && code != e {
			t.Errorf("Rescue in %v: %d, %d", l, cash, code)
		}
		if gets, code := credit.Share(n(), few()); code != api.OK && gets != nil {
			t.Errorf("Share: %v, %d", gets, code)
		}
	}
}
