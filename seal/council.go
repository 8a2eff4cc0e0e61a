package seal

import (
	"iter"
	"slices"
	"strings"

	"rostellum/api"
)

// longest is how many grants a chain has at most.
const longest = api.SealDepth + 1

// grant is a grant that counts, and the last day on which it is in force; it never is if that is before its first one.
type grant struct {
	note
	last int
}

// council is who grants one claim: the roots, and all grants of the claim that count, each once, in the order of notes.
type council struct {
	roots  []string
	grants []grant
}

// used is which grants of a council are used: those that are in force.
type used [api.SealNotes]bool

func councilOf(roots []string, l []api.SealNote, claim string) council {
	c := council{roots: each(roots, strings.Compare)}
	l = each(l, compare)
	lying := liars(l)
	for _, n := range l {
		if n.Kind == api.SealGrant && n.Claim == claim && !slices.Contains(lying, n.By) {
			c.grants = append(c.grants, grant{note{n}, lastDay(n, l)})
		}
	}
	return c
}

// lastDay returns the last day of a grant that counts; the notes that withdraw it count, too, as they are by the same name.
func lastDay(g api.SealNote, l []api.SealNote) int {
	last := g.Until
	for _, n := range l {
		if n.Kind == api.SealBack && n.By == g.By && n.Of == g.Seq {
			last = min(last, n.From-1)
		}
	}
	return last
}

// usedOn returns which grants are in force on a day.
func (c council) usedOn(day int) used {
	var u used
	for i, g := range c.grants {
		u[i] = isIn(day, g.From, g.last)
	}
	return u
}

// after yields, in the order of notes, the grants of a name that are used, and behind which there can be so many others.
func (c council) after(name string, behind int, u used) iter.Seq[grant] {
	return func(yield func(grant) bool) {
		for i, g := range c.grants {
			if u[i] && g.By == name && g.Depth >= behind && !yield(g) {
				return
			}
		}
	}
}

// stage is a name that has got a claim, and how many grants are still to come.
type stage struct {
	name string
	many int
}

// chain returns, of all chains for a name, the first one of those with the fewest grants; false if there is none.
func (c council) chain(name string, u used) (chain []api.SealNote, ok bool) {
	missed := map[stage]bool{} // without them all chains would be tried, and there can be a great many
	var leads func(s stage) bool
	leads = func(s stage) bool {
		if s.many == 0 {
			return s.name == name
		}
		if missed[s] {
			return false
		}
		for g := range c.after(s.name, s.many-1, u) {
			if leads(stage{g.To, s.many - 1}) {
				chain = append(chain, g.SealNote)
				return true
			}
		}
		missed[s] = true
		return false
	}
search:
	for many := range longest + 1 {
		for _, root := range c.roots {
			if ok = leads(stage{root, many}); ok {
				break search
			}
		}
	}
	slices.Reverse(chain)
	return chain, ok
}

func (c council) holds(name string, day int) bool {
	_, ok := c.chain(name, c.usedOn(day))
	return ok
}

// holders returns all names that hold the claim on a day.
func (c council) holders(day int) []string {
	names := slices.Clone(c.roots)
	for _, g := range c.grants {
		if c.holds(g.To, day) {
			names = append(names, g.To)
		}
	}
	return each(names, strings.Compare)
}

// days returns the spans of days on which a name holds the claim.
func (c council) days(name string, from, until int) []api.Span {
	var spans []api.Span
	var before used
	_, holds := c.chain(name, before)
	for i := range until - from + 1 {
		// Who holds a claim changes only with the grants that are in force.
		if u := c.usedOn(from + i); u != before {
			before = u
			_, holds = c.chain(name, u)
		}
		if holds {
			spans = longer(spans, from+i)
		}
	}
	return spans
}

// longer returns spans with one day more, which is behind all of theirs.
func longer(spans []api.Span, day int) []api.Span {
	last := len(spans) - 1
	if last >= 0 && spans[last].High == day-1 {
		spans[last].High = day
		return spans
	}
	return append(spans, api.Span{Low: day, High: day})
}
