package hands

import (
	"slices"

	"rostellum/api"
)

// The places of a net: flowers are brought from the source, where all work begins, over a hand's morning and one of its hours to a vine on this morning, from there to the vine in the season, and to the sink.
const (
	source     = 0
	sink       = 1
	firstVine  = 2
	firstBloom = firstVine + api.HandsVines
	firstDay   = firstBloom + api.HandsMornings*api.HandsVines
	firstHour  = firstDay + api.HandsMornings*api.HandsHands
	places     = firstHour + api.HandsMornings*api.HandsHands*api.HandsHours
)

// plenty is more than what can ever be brought.
const plenty = api.HandsMornings*api.HandsVines*api.HandsFlowers + 1

func vineAt(vine int) int { return firstVine + vine }

func bloomAt(morning, vine int) int { return firstBloom + morning*api.HandsVines + vine }

func dayAt(morning, hand int) int { return firstDay + morning*api.HandsHands + hand }

func hourAt(morning, hand, hour int) int {
	return firstHour + (morning*api.HandsHands+hand)*api.HandsHours + hour
}

// way is from a place to another one.
type way struct{ from, to int }

func (w way) back() way { return way{w.to, w.from} }

// visited is which places were visited.
type visited [places]bool

// net is, for each place, those that are next to it, and how many flowers can still be brought on each way: on the way back as many as were brought, since these can be taken back.
type net struct {
	next [places][]int
	left map[way]int
}

func newNet(s api.HandsSeason, truth [][]int) *net {
	n := &net{left: map[way]int{}}
	for vine, v := range s.Vines {
		n.join(way{vineAt(vine), sink}, v.Bears)
	}
	hands := handsOf(s)
	for morning := range len(truth) {
		for vine, flowers := range truth[morning] {
			n.join(way{bloomAt(morning, vine), vineAt(vine)}, flowers)
		}
		for i := range hands {
			n.add(morning, i, hands[i])
		}
	}
	return n
}

// add adds what a hand can do on a morning.
func (n *net) add(morning, i int, h hand) {
	day := dayAt(morning, i)
	n.join(way{source, day}, h.Day)
	for hour := range api.HandsHours {
		n.join(way{day, hourAt(morning, i, hour)}, h.Rate)
	}
	for vine := range len(h.garden) {
		for hour := range h.hours(vine) {
			n.join(way{hourAt(morning, i, hour), bloomAt(morning, vine)}, plenty)
		}
	}
}

func (n *net) join(w way, most int) {
	n.next[w.from] = append(n.next[w.from], w.to)
	n.next[w.to] = append(n.next[w.to], w.from)
	n.left[w] = most
}

// bring brings as many flowers to vines as can be, and returns how many these are.
func (n *net) bring() int {
	var seen visited
	var carry func(w way, many int) int
	carry = func(w way, many int) int {
		many = least(many, n.left[w])
		if many == 0 || seen[w.to] {
			return 0
		}
		seen[w.to] = true
		got := 0
		if w.to == sink {
			got = many
		}
		for _, to := range n.next[w.to] {
			if got > 0 {
				break
			}
			got = carry(way{w.to, to}, many)
		}
		n.left[w] -= got
		n.left[w.back()] += got
		return got
	}
	all := 0
again:
	for {
		seen = visited{source: true}
		for _, day := range n.next[source] {
			if got := carry(way{source, day}, plenty); got > 0 {
				all += got
				continue again
			}
		}
		return all
	}
}

// reached returns the places to which more could be brought.
func (n *net) reached() visited {
	var before visited
	now := visited{source: true}
	for now != before {
		before = now
		for from := range places {
			for _, to := range n.next[from] {
				if now[from] && n.left[way{from, to}] > 0 {
					now[to] = true
				}
			}
		}
	}
	return now
}

// jobs returns the plan by which the flowers were brought.
func (n *net) jobs(s api.HandsSeason) []api.HandsJob {
	var l []api.HandsJob
	for morning := range len(s.Flowers) {
		for i, h := range handsOf(s) {
			for vine := range len(s.Vines) {
				for hour := range h.hours(vine) {
					w := way{hourAt(morning, i, hour), bloomAt(morning, vine)}
					if many := n.left[w.back()]; many > 0 {
						l = append(l, api.HandsJob{Morning: morning, Hour: hour, Hand: i, Vine: vine, Many: many})
					}
				}
			}
		}
	}
	slices.SortFunc(l, func(a, b api.HandsJob) int { return slices.Compare(order(a), order(b)) })
	return l
}

// bound returns the bound that keeps more flowers from being brought: where places that are reached end, all that can be brought is brought.
func (n *net) bound(s api.HandsSeason) api.HandsBound {
	b := api.HandsBound{Mornings: make([]int, len(s.Flowers))}
	reached := n.reached()
	for vine := range len(s.Vines) {
		if reached[vineAt(vine)] {
			b.Vines |= 1 << vine
			continue
		}
		for morning := range len(s.Flowers) {
			if reached[bloomAt(morning, vine)] {
				b.Mornings[morning] |= 1 << vine
			}
		}
	}
	return b
}
