package credit_test

// The properties, and what is said of all payments and shares, against a calculation that follows the document's words.

import (
	"math/rand/v2"
	"slices"
	"testing"

	"rostellum/api"
	"rostellum/credit"
)

// owes returns what each party owes.
func owes(l api.Ledger) []int {
	owed := make([]int, len(l.Parties))
	for _, d := range l.Debts {
		owed[d.From] += d.Cents
	}
	return owed
}

// partsOf returns what is paid of each debt.
func partsOf(l api.Ledger, pays []int) []int {
	var parts []int
	for _, d := range l.Debts {
		parts = append(parts, pays[d.From]*d.Cents/owes(l)[d.From])
	}
	return parts
}

// hasOf returns what each party has with payments.
func hasOf(l api.Ledger, pays []int) []int {
	var has []int
	for i, p := range l.Parties {
		cents := p.Cash
		for k, part := range partsOf(l, pays) {
			if l.Debts[k].To == i {
				cents += part
			}
		}
		has = append(has, cents)
	}
	return has
}

// leftOf returns what is left to each party with payments.
func leftOf(l api.Ledger, pays []int) []int {
	left := hasOf(l, pays)
	for k, part := range partsOf(l, pays) {
		left[l.Debts[k].From] -= part
	}
	return left
}

// shortOf returns all parties that pay less than they owe.
func shortOf(l api.Ledger, pays []int) []int {
	var short []int
	for i, owed := range owes(l) {
		if pays[i] < owed {
			short = append(short, i)
		}
	}
	return short
}

func canBeMade(l api.Ledger, pays []int) bool {
	has := hasOf(l, pays)
	for i, cents := range pays {
		if cents > has[i] {
			return false
		}
	}
	return true
}

func settle(l api.Ledger, pays []int) bool {
	has, owed := hasOf(l, pays), owes(l)
	for i, cents := range pays {
		if cents != min(owed[i], has[i]) {
			return false
		}
	}
	return true
}

// allPayments yields all payments of a ledger.
func allPayments(l api.Ledger) func(yield func([]int) bool) {
	owed := owes(l)
	return func(yield func([]int) bool) {
		pays := make([]int, len(owed))
		for {
			if !yield(pays) {
				return
			}
			i := 0
			for ; i < len(pays) && pays[i] == owed[i]; i++ {
				pays[i] = 0
			}
			if i == len(pays) {
				return
			}
			pays[i]++
		}
	}
}

// someLedger returns a ledger of at most so many parties, debts, and cents of each.
func someLedger(r *rand.Rand, parties, debts, cents int) api.Ledger {
	var l api.Ledger
	cash := r.IntN(cents + 1)
	for i := range 1 + r.IntN(parties) {
		l.Parties = append(l.Parties, api.Party{Name: "p" + string(rune('a'+i)), Cash: r.IntN(cash + 1)})
	}
	most := r.IntN(debts + 1)
	for range 4 * debts {
		d := debt(r.IntN(len(l.Parties)), r.IntN(len(l.Parties)), 1+r.IntN(cents))
		isThere := slices.ContainsFunc(l.Debts, func(o api.Debt) bool { return o.From == d.From && o.To == d.To })
		if d.From != d.To && !isThere && len(l.Debts) < most {
			l.Debts = append(l.Debts, d)
		}
	}
	return l
}

// P9.2, P9.3, P9.7
func TestAllPayments(t *testing.T) {
	r := rand.New(rand.NewPCG(1, 9))
	several, short := 0, 0
	for range 3000 {
		l := someLedger(r, 3, 4, 4)
		settling := 0
		greatest := make([]int, len(l.Parties)) // of each party, in any payments that settle, or that can be made
		for pays := range allPayments(l) {
			parts, has, e := credit.Pay(l, pays)
			want(t, "Pay", parts, partsOf(l, pays), e, api.OK)
			want(t, "what they have", has, hasOf(l, pays), e, api.OK)
			settles := settle(l, pays)
			if settles {
				settling++
			}
			if settles || canBeMade(l, pays) {
				for i, cents := range pays {
					greatest[i] = max(greatest[i], cents)
				}
			}
		}
		if settling > 1 {
			several++
		}
		pays, parts, e := credit.Clear(l)
		want(t, "Clear", pays, greatest, e, api.OK)
		want(t, "parts of Clear", parts, partsOf(l, greatest), e, api.OK)
		if !settle(l, pays) || !canBeMade(l, pays) {
			t.Errorf("%v do not settle", pays)
		}
		left, e := credit.Left(l)
		want(t, "Left", left, leftOf(l, greatest), e, api.OK)
		list, e := credit.Short(l)
		want(t, "Short", list, shortOf(l, greatest), e, api.OK)
		short += len(list)
		if t.Failed() {
			t.Fatalf("%v", l)
		}
	}
	if several == 0 || short == 0 {
		t.Errorf("not all kinds of ledgers: %d with several payments that settle, %d short", several, short)
	}
}

// lowered returns the payments at which one ends who begins with all that is owed, and then lets some party, which pays more than it has, pay what it has instead, as long as there is one.
func lowered(l api.Ledger, choose func(many int) int) []int {
	pays := owes(l)
	for {
		has := hasOf(l, pays)
		var over []int
		for i := range pays {
			if pays[i] > has[i] {
				over = append(over, i)
			}
		}
		if len(over) == 0 {
			return pays
		}
		i := over[choose(len(over))]
		pays[i] = has[i]
	}
}

// P9.8, P9.9
func TestAnyOrder(t *testing.T) {
	r := rand.New(rand.NewPCG(2, 9))
	short := 0
	for i := range 1500 {
		l := someLedger(r, 8, 16, []int{5, 100, 1000, 100000}[i%4])
		pays, parts, e := credit.Clear(l)
		if e != api.OK {
			t.Fatalf("Clear of %v: %d", l, e)
		}
		for _, choose := range []func(int) int{r.IntN, func(int) int { return 0 }, func(many int) int { return many - 1 }} {
			want(t, "Clear", pays, lowered(l, choose), e, api.OK)
		}
		want(t, "parts of Clear", parts, partsOf(l, pays), e, api.OK)
		left, e := credit.Left(l)
		want(t, "Left", left, leftOf(l, pays), e, api.OK)
		list, e := credit.Short(l)
		want(t, "Short", list, shortOf(l, pays), e, api.OK)
		short += len(list)
		cash := 0
		for i, p := range l.Parties {
			cash += p.Cash - left[i]
			if left[i] < 0 {
				t.Errorf("%d is left less than nothing", i)
			}
		}
		want(t, "cash that is not left", cash, 0, 0, 0)
		for _, i := range list {
			debts := 0
			for _, d := range l.Debts {
				if d.From == i {
					debts++
				}
			}
			if left[i] >= debts {
				t.Errorf("%d is short, with %d debts, and is left %d", i, debts, left[i])
			}
		}
		if t.Failed() {
			t.Fatalf("%v", l)
		}
	}
	if short == 0 {
		t.Error("nobody was short")
	}
}

// withCash returns a ledger in which a party has more cash.
func withCash(l api.Ledger, party, more int) api.Ledger {
	l.Parties = slices.Clone(l.Parties)
	l.Parties[party].Cash += more
	return l
}

// P9.10
func TestMoreCash(t *testing.T) {
	r := rand.New(rand.NewPCG(3, 9))
	more := 0
	for i := range 3000 {
		cents := []int{5, 100, 1000}[i%3]
		l := someLedger(r, 8, 16, cents)
		rich := withCash(l, r.IntN(len(l.Parties)), 1+r.IntN(2*cents))
		before, _, e := credit.Clear(l)
		after, _, code := credit.Clear(rich)
		if e != api.OK || code != api.OK {
			t.Fatalf("Clear: %d and %d", e, code)
		}
		for i := range before {
			if after[i] < before[i] {
				t.Errorf("%v: %v, and with more cash, %v: %v", l, before, rich, after)
			}
			more += after[i] - before[i]
		}
	}
	if more == 0 {
		t.Error("nobody paid more")
	}
}

// P9.4, P9.11: cash of a party, cent by cent. (A party may have more than a ledger allows, so the calculation is that of the document's words.)
func TestAllRescues(t *testing.T) {
	r := rand.New(rand.NewPCG(4, 9))
	seen := map[string]int{}
	isShort := func(l api.Ledger) bool {
		return len(shortOf(l, lowered(l, r.IntN))) > 0
	}
	for range 1000 {
		l := someLedger(r, 1+r.IntN(5), 8, 6)
		all := 0
		for _, d := range l.Debts {
			all += d.Cents
		}
		for party := range l.Parties {
			cash, code := 0, api.OK
			for cash <= all && isShort(withCash(l, party, cash)) {
				cash++
			}
			if cash > all {
				cash, code = 0, api.ErrNone
			}
			got, e := credit.Rescue(l, party)
			want(t, "Rescue", got, cash, e, code)
			switch {
			case code != api.OK:
				seen["none"]++
			case cash == 0:
				seen["nobody is short"]++
			default:
				seen["rescued"]++
			}
		}
		if t.Failed() {
			t.Fatalf("%v", l)
		}
	}
	if len(seen) < 3 {
		t.Errorf("not all kinds of ledgers: %v", seen)
	}
}

// P9.11, with great amounts.
func TestRescueIsTheLeast(t *testing.T) {
	r := rand.New(rand.NewPCG(5, 9))
	rescued := 0
	for range 3000 {
		l := someLedger(r, 8, 5, 100000)
		party := r.IntN(len(l.Parties))
		for i := range l.Parties {
			if i != party && r.IntN(3) > 0 {
				l.Parties[i].Cash = 100000 - r.IntN(100)
			}
		}
		short := func(more int) []int {
			l := withCash(l, party, more)
			return shortOf(l, lowered(l, r.IntN))
		}
		cash, e := credit.Rescue(l, party)
		switch {
		case e == api.ErrNone:
			if l := short(16 * 100000); len(l) == 0 {
				t.Errorf("nobody is short")
			}
		case e != api.OK || len(short(cash)) > 0 || cash > 0 && len(short(cash-1)) == 0:
			t.Errorf("Rescue of %d: %d, %d", party, cash, e)
		case cash > 0:
			rescued++
		}
		if t.Failed() {
			t.Fatalf("%v", l)
		}
	}
	if rescued == 0 {
		t.Error("nobody was rescued")
	}
}

// shareOut is a sum that is shared out by the document's words: cent after cent that is left goes to the first share, of those without one, whose quota was rounded down by most.
func shareOut(sum int, shares []int) []int {
	whole, left := 0, sum
	for _, share := range shares {
		whole += share
	}
	var gets, rounded []int
	for _, share := range shares {
		quota := sum * share / whole
		gets = append(gets, quota)
		rounded = append(rounded, sum*share-quota*whole)
		left -= quota
	}
	for ; left > 0; left-- {
		i := slices.Index(rounded, slices.Max(rounded))
		gets[i]++
		rounded[i] = -1
	}
	return gets
}

// isShared checks P9.12.
func isShared(t *testing.T, sum int, shares, gets []int) {
	t.Helper()
	whole, all := 0, 0
	for i := range shares {
		whole += shares[i]
		all += gets[i]
	}
	if all != sum {
		t.Errorf("%d of %d", all, sum)
	}
	for i, share := range shares {
		if d := gets[i]*whole - sum*share; d <= -whole || d >= whole {
			t.Errorf("%d gets a whole cent less, or more", i)
		}
		for k, other := range shares {
			if share > other && gets[i] < gets[k] {
				t.Errorf("%d gets less than %d", i, k)
			}
		}
	}
}

// P9.5, P9.12
func TestAllShares(t *testing.T) {
	check := func(sum int, shares []int) {
		gets, e := credit.Share(sum, shares)
		want(t, "Share", gets, shareOut(sum, shares), e, api.OK)
		if isShared(t, sum, shares, gets); t.Failed() {
			t.Fatalf("%d by %v: %v", sum, shares, gets)
		}
	}
	for n := 1; n < 6*6*6*6; n++ {
		shares := []int{n % 6, n / 6 % 6, n / 36 % 6, n / 216}
		for sum := range 25 {
			check(sum, shares)
		}
	}
	r := rand.New(rand.NewPCG(6, 9))
	for range 50000 {
		shares := make([]int, 1+r.IntN(8))
		most := 1 + r.IntN(1000)
		for i := range shares {
			shares[i] = r.IntN(most + 1)
		}
		shares[r.IntN(len(shares))] = most
		check(r.IntN(1+r.IntN(1000001)), shares)
	}
}
