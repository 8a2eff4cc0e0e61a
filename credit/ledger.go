package credit

import (
	"iter"
	"slices"

	"rostellum/api"
)

// amounts are cents of each party; those of indices without a party are 0.
type amounts [api.CreditParties]int

// ledger is a valid one, and what each party owes.
type ledger struct {
	api.Ledger
	owed amounts
}

func ledgerOf(l api.Ledger) ledger {
	known := ledger{Ledger: l}
	for party := range l.Parties {
		var all []int
		for d := range known.debtsOf(party) {
			all = append(all, d.Cents)
		}
		known.owed[party] = sum(all...)
	}
	return known
}

// debtsOf yields the debts of a party.
func (l ledger) debtsOf(party int) iter.Seq[api.Debt] {
	return func(yield func(api.Debt) bool) {
		for _, d := range l.Debts {
			if d.From == party && !yield(d) {
				return
			}
		}
	}
}

// list returns the amounts of the parties that there are.
func (l ledger) list(of amounts) []int { return slices.Clone(of[:len(l.Parties)]) }

// payments returns a list as payments; false if it is not one of payments.
func (l ledger) payments(list []int) (amounts, bool) {
	if len(list) != len(l.Parties) {
		return amounts{}, false
	}
	var pays amounts
	for party, cents := range list {
		if !isIn(cents, 0, l.owed[party]) {
			return amounts{}, false
		}
		pays[party] = cents
	}
	return pays, true
}

// part returns what is paid of a debt.
func (l ledger) part(d api.Debt, pays amounts) int {
	return pays[d.From] * d.Cents / l.owed[d.From]
}

// parts returns what is paid of each debt.
func (l ledger) parts(pays amounts) []int {
	var parts []int
	for _, d := range l.Debts {
		parts = append(parts, l.part(d, pays))
	}
	return parts
}

// has returns what each party has with payments.
func (l ledger) has(pays amounts) amounts {
	var has amounts
	for party, p := range l.Parties {
		has[party] = p.Cash
	}
	for _, d := range l.Debts {
		has[d.To] += l.part(d, pays)
	}
	return has
}

// lesser returns for each party the lesser one of what it owes and what it has with payments.
func (l ledger) lesser(pays amounts) amounts {
	lesser := l.has(pays)
	for party, owed := range l.owed {
		lesser[party] = min(lesser[party], owed)
	}
	return lesser
}

// settlement returns the greatest payments that settle the ledger. Nobody has more when others pay less, so payments that are lowered from all that is owed never fall below any that settle, and end at the greatest.
func (l ledger) settlement() amounts {
	pays := l.owed
settling:
	for {
		next := l.lesser(pays)
		if next == pays {
			break settling
		}
		pays = next
	}
	return pays
}

// left returns what is left to each party with payments.
func (l ledger) left(pays amounts) amounts {
	left := l.has(pays)
	for party := range l.Parties {
		for d := range l.debtsOf(party) {
			left[party] -= l.part(d, pays)
		}
	}
	return left
}

// short returns the parties that are short.
func (l ledger) short() []int {
	var short []int
	pays := l.settlement()
	for party := range l.Parties {
		if pays[party] < l.owed[party] {
			short = append(short, party)
		}
	}
	return short
}

// rescue returns the least cash that a party must have more, such that none is short; false if no cash suffices.
func (l ledger) rescue(party int) (int, bool) {
	return least(sum(l.owed[:]...), func(more int) bool {
		return l.with(party, more).paysAll()
	})
}

// with returns the ledger in which a party has more cash.
func (l ledger) with(party, more int) ledger {
	l.Parties = slices.Clone(l.Parties)
	l.Parties[party].Cash += more
	return l
}

// paysAll reports whether no party is short: whether all that is owed settles the ledger.
func (l ledger) paysAll() bool { return l.lesser(l.owed) == l.owed }

// least returns the least number, from 0 to a greatest one, that suffices; false if none does. What is greater than a number that suffices must suffice too.
func least[N ~int](most N, suffices func(N) bool) (N, bool) {
	if !suffices(most) {
		return 0, false
	}
	low, high := N(0), most
	for low < high {
		middle := (low + high) / 2
		if suffices(middle) {
			high = middle
		} else {
			low = middle + 1
		}
	}
	return high, true
}

// sum returns the sum of some numbers.
func sum(numbers ...int) int {
	all := 0
	for _, n := range numbers {
		all += n
	}
	return all
}
