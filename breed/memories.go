package breed

import (
	"slices"

	"droveway/api"
)

// memories are triples that were found to be some of n beasts.
type memories []api.Triple

// memoriesOf returns the triples if they are some of n beasts.
func memoriesOf(n int, triples []api.Triple) (memories, api.Errno) {
	if !isNumber(n) {
		return nil, api.ErrArg
	}
	if len(triples) > api.MaxTriples {
		return nil, api.ErrLimit
	}
	for _, t := range triples {
		if !isTriple(n, t) {
			return nil, api.ErrArg
		}
	}
	return triples, api.OK
}

func isTriple(n int, t api.Triple) bool {
	return isBeast(n, t.A) && isBeast(n, t.B) && isBeast(n, t.C) && t.A < t.B && t.A != t.C && t.B != t.C
}

// triplesThat returns all triples of n beasts that a function chooses, in order.
func triplesThat(n int, chosen func(t api.Triple) bool) []api.Triple {
	var out []api.Triple
	for a := range n {
		for b := range n {
			for c := range n {
				if t := (api.Triple{A: a, B: b, C: c}); isTriple(n, t) && chosen(t) {
					out = append(out, t)
				}
			}
		}
	}
	return out
}

// others returns the other two triples of the same beasts.
func others(t api.Triple) [2]api.Triple {
	return [2]api.Triple{
		{A: min(t.A, t.C), B: max(t.A, t.C), C: t.B},
		{A: min(t.B, t.C), B: max(t.B, t.C), C: t.A},
	}
}

// joined returns the parts of a set whose beasts can be reached from each other by joins, as ascending numbers.
func (m memories) joined(s set) []set {
	var parts []set
	for left := s; left != 0; left &= left - 1 {
		parts = append(parts, left.least().beasts())
	}
	for _, t := range m {
		if s.has(setWith(t.A, t.B, t.C)) {
			parts = united(parts, setWith(t.A, t.B))
		}
	}
	slices.Sort(parts)
	return parts
}

// united makes one part of those that have the beasts of a pair.
func united(parts []set, pair set) []set {
	var one set
	var out []set
	for _, part := range parts {
		if part.meets(pair) {
			one |= part
		} else {
			out = append(out, part)
		}
	}
	return append(out, one)
}

// build makes the tree of a set that shows the triples of its beasts; it is false if there is none.
func (m memories) build(s set) (tree, bool) {
	if s.count() == 1 {
		return s.least(), true
	}
	joined := m.joined(s)
	if len(joined) == 1 {
		return nil, false
	}
	var parts []tree
	for _, set := range joined {
		part, ok := m.build(set)
		if !ok {
			return nil, false
		}
		parts = append(parts, part)
	}
	return join(parts), true
}

// fit reports whether there is a tree of n beasts that shows all triples.
func (m memories) fit(n int) bool {
	_, ok := m.build(all(n))
	return ok
}

// imply reports whether every tree of n beasts that shows the triples, of which there must be one, shows this one too. If a
// tree does not, then it shows one of the other two, or none of the three: such a tree can be made finer, to show any of them.
func (m memories) imply(n int, t api.Triple) bool {
	for _, other := range others(t) {
		if slices.Concat(m, memories{other}).fit(n) {
			return false
		}
	}
	return true
}
