package feuds

import (
	"math/bits"
	"slices"

	"droveway/api"
)

// shortestRing is the least number of ties that a ring can have.
const shortestRing = 3

// isRing reports whether a list is a ring.
func (c company) isRing(list []int) bool {
	// A ring has as many ties as common drovers.
	if len(list) < shortestRing || len(list) > c.n {
		return false
	}
	passed := 0
	last := list[len(list)-1]
	for _, tie := range list {
		if !c.has(tie) || !c.has(last) {
			return false
		}
		common := both(c.ties[last]) & both(c.ties[tie])
		if bits.OnesCount(uint(common)) != 1 || passed&common != 0 {
			return false
		}
		passed |= common
		last = tie
	}
	return true
}

// has reports whether there is a tie of this index.
func (c company) has(tie int) bool { return tie >= 0 && tie < len(c.ties) }

// feuds returns how many ties of a list are feuds.
func (c company) feuds(list []int) int {
	count := 0
	for _, tie := range list {
		if c.ties[tie].Feud {
			count++
		}
	}
	return count
}

func isOdd(feuds int) bool { return feuds%2 == 1 }

// shortest returns the ring with the fewest ties that is wanted for its number of feuds, of several the lexicographically least
// list.
func (c company) shortest(isWanted func(feuds int) bool) ([]int, api.Errno) {
	for length := shortestRing; length <= c.n; length++ {
		for _, ring := range c.rings(length) {
			if isWanted(c.feuds(ring)) {
				return ring, api.OK
			}
		}
	}
	return nil, api.ErrPlan
}

// oddRings returns all odd rings, in lexicographic order.
func (c company) oddRings() [][]int {
	var odd [][]int
	for length := shortestRing; length <= c.n; length++ {
		for _, ring := range c.rings(length) {
			if isOdd(c.feuds(ring)) {
				odd = append(odd, ring)
			}
		}
	}
	slices.SortFunc(odd, slices.Compare)
	return odd
}

// rings returns all rings of so many ties, each once as the lexicographically least list of its ties, in lexicographic order.
func (c company) rings(length int) [][]int {
	var rings [][]int
	for tie, t := range c.ties {
		rings = append(rings, c.closed(length, []int{tie}, []int{t.A, t.B})...)
		rings = append(rings, c.closed(length, []int{tie}, []int{t.B, t.A})...)
	}
	slices.SortFunc(rings, slices.Compare)
	return rings
}

// closed returns the rings of so many ties that go on from a way along some ties, which passes the drovers one after the other.
// A ring's least list has the least tie first, and goes on from there in the direction in which the last tie is more than the
// second one.
func (c company) closed(length int, ties, drovers []int) [][]int {
	var rings [][]int
next:
	for tie := ties[0] + 1; tie < len(c.ties); tie++ {
		to, isOn := across(c.ties[tie], drovers[len(drovers)-1])
		if !isOn {
			continue
		}
		if len(ties) == length-1 {
			if to == drovers[0] && tie > ties[1] {
				rings = append(rings, slices.Concat(ties, []int{tie}))
			}
			continue
		}
		for _, passed := range drovers {
			if passed == to {
				continue next
			}
		}
		longer := c.closed(length, slices.Concat(ties, []int{tie}), slices.Concat(drovers, []int{to}))
		rings = append(rings, longer...)
	}
	return rings
}

// across returns the other drover of a tie; it is false if the tie is not of the drover.
func across(t api.Tie, drover int) (int, bool) {
	switch drover {
	case t.A:
		return t.B, true
	case t.B:
		return t.A, true
	}
	return 0, false
}

// mostApart returns the longest list of the rings, which are given in lexicographic order, no two of which have a tie in common,
// of several the lexicographically least.
func mostApart(rings [][]int) [][]int {
	var most [][]int
	for i, ring := range rings {
		rest := mostApart(apartFrom(ring, rings[i+1:]))
		// Of lists that are as long, those that begin with an earlier ring are less.
		if 1+len(rest) > len(most) {
			most = slices.Concat([][]int{ring}, rest)
		}
	}
	return most
}

// apartFrom returns the rings that have no tie in common with a ring.
func apartFrom(ring []int, rings [][]int) [][]int {
	var apart [][]int
next:
	for _, other := range rings {
		for _, tie := range other {
			if slices.Contains(ring, tie) {
				continue next
			}
		}
		apart = append(apart, other)
	}
	return apart
}
