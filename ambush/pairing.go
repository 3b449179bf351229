package ambush

import (
	"slices"

	"droveway/api"
)

// setOf is the set of the two spots of a pair.
func setOf(p api.Pair) int { return 1<<p.A | 1<<p.B }

// isPairing reports whether the pairs are an ascending list, no spot is in two of them, and every line has both spots of one.
func (f field) isPairing(pairs []api.Pair) bool {
	before, used := -1, 0
	for _, p := range pairs {
		// The first spots alone must ascend, since no two pairs may have the same one.
		if p.A <= before || p.B <= p.A || !f.knows(p.B) || used&setOf(p) != 0 {
			return false
		}
		before = p.A
		used |= setOf(p)
	}
	return f.guarded(pairs)
}

// guarded reports whether every line has both spots of a pair.
func (f field) guarded(pairs []api.Pair) bool {
	for _, line := range f.lines {
		if !slices.ContainsFunc(pairs, func(p api.Pair) bool { return line&setOf(p) == setOf(p) }) {
			return false
		}
	}
	return true
}

// pairing returns the lexicographically least pairing with the fewest pairs; it is false if there is none.
func (f field) pairing() ([]api.Pair, bool) {
	for count := range f.m/2 + 1 {
		if pairs, ok := f.complete(make([]api.Pair, 0, count), f.all(), count); ok {
			return pairs, true
		}
	}
	return nil, false
}

// complete returns the least pairing that begins with the pairs and has so many more, of spots that are left.
func (f field) complete(pairs []api.Pair, left, more int) ([]api.Pair, bool) {
	if more == 0 {
		return pairs, f.guarded(pairs)
	}
	for a := range f.m {
		for b := a + 1; b < f.m; b++ {
			p := api.Pair{A: a, B: b}
			if left&setOf(p) != setOf(p) {
				continue
			}
			// The pairs after this one have greater first spots, and so none of the smaller spots.
			if found, ok := f.complete(append(pairs, p), left&^setOf(p)&^(1<<a-1), more-1); ok {
				return found, true
			}
		}
	}
	return nil, false
}
