package credit

import (
	"rostellum/api"
	"rostellum/vine"
)

// isIn reports whether a number is from a least to a greatest one.
func isIn(n, least, most int) bool { return least <= n && n <= most }

func isLedger(l api.Ledger) bool { return areParties(l.Parties) && areDebts(l) }

func areParties(l []api.Party) bool {
	if !isIn(len(l), 1, api.CreditParties) {
		return false
	}
	met := map[string]bool{}
	for _, p := range l {
		if !vine.IsWord(p.Name) || met[p.Name] || !isIn(p.Cash, 0, api.CreditCash) {
			return false
		}
		met[p.Name] = true
	}
	return true
}

// isPartyOf reports whether a number is the index of a party.
func isPartyOf(l api.Ledger, party int) bool { return isIn(party, 0, len(l.Parties)-1) }

// areDebts reports whether the debts of a ledger are valid.
func areDebts(l api.Ledger) bool {
	if len(l.Debts) > api.CreditDebts {
		return false
	}
	for i, d := range l.Debts {
		if !isPartyOf(l, d.From) || !isPartyOf(l, d.To) || d.From == d.To || !isIn(d.Cents, 1, api.CreditCash) {
			return false
		}
		for _, earlier := range l.Debts[:i] {
			if between(d) == between(earlier) {
				return false
			}
		}
	}
	return true
}

// between returns a debt without its amount: only from whom, and to whom, it is.
func between(d api.Debt) api.Debt { return api.Debt{From: d.From, To: d.To} }

func areShares(l []int) bool {
	if !isIn(len(l), 1, api.CreditShares) {
		return false
	}
	for _, part := range l {
		if !isIn(part, 0, api.CreditPart) {
			return false
		}
	}
	return sum(l...) > 0
}
