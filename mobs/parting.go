package mobs

import (
	"slices"

	"droveway/api"
)

// parting is a list that was found to be one.
type parting []int

// partingOf returns the list if it is a parting.
func partingOf(list []int) (parting, api.Errno) {
	if len(list) > api.MaxHerd {
		return nil, api.ErrLimit
	}
	if !slices.Equal(list, numbered(list)) {
		return nil, api.ErrArg
	}
	return list, api.OK
}

// pairOf returns both lists if they are partings of the same beasts.
func pairOf(a, b []int) (parting, parting, api.Errno) {
	p, err := partingOf(a)
	if err != api.OK {
		return nil, nil, err
	}
	q, err := partingOf(b)
	if err != api.OK {
		return nil, nil, err
	}
	if len(p) != len(q) {
		return nil, nil, api.ErrArg
	}
	return p, q, api.OK
}

// numbered returns the parting in which two beasts are in one mob if their marks are the same.
func numbered[M comparable](marks []M) parting {
	p := make(parting, len(marks))
	mobs := 0
	for beast, mark := range marks {
		first := slices.Index(marks, mark)
		if first < beast {
			p[beast] = p[first]
			continue
		}
		p[beast] = mobs
		mobs++
	}
	return p
}

// mobs is the number of mobs.
func (p parting) mobs() int {
	mobs := 0
	for _, mob := range p {
		mobs = max(mobs, mob+1)
	}
	return mobs
}

// finer reports whether all beasts of each mob are in one mob of the other parting.
func (p parting) finer(other parting) bool {
	for beast, mob := range p {
		if other[beast] != other[slices.Index(p, mob)] {
			return false
		}
	}
	return true
}

// shared returns the parting in which two beasts are in one mob if they are so in both.
func (p parting) shared(other parting) parting {
	both := make([][2]int, len(p))
	for beast := range p {
		both[beast] = [2]int{p[beast], other[beast]}
	}
	return numbered(both)
}

// joined returns the finest parting than which both are finer, or the same.
func (p parting) joined(other parting) parting {
	marks := slices.Clone(p)
	for beast, mob := range other {
		from, to := marks[beast], marks[slices.Index(other, mob)]
		for i := range marks {
			if marks[i] == from {
				marks[i] = to
			}
		}
	}
	return numbered(marks)
}

// crossing returns the least four beasts for which the parting is crossed; it is false if it is not.
func (p parting) crossing() ([4]int, bool) {
	for a := range p {
		for b := a + 1; b < len(p); b++ {
			for c := b + 1; c < len(p); c++ {
				for d := c + 1; d < len(p); d++ {
					if p[a] == p[c] && p[b] == p[d] && p[a] != p[b] {
						return [4]int{a, b, c, d}, true
					}
				}
			}
		}
	}
	return [4]int{}, false
}

// between returns the parting of the boys. Each gets the first boy as a mark to whom the line does not part a mob, or himself.
func (p parting) between() parting {
	firsts := make([]int, len(p))
	for boy := range firsts {
		first := 0
		for p.parted(first, boy) {
			first++
		}
		firsts[boy] = first
	}
	return numbered(firsts)
}

// parted reports whether a mob has beasts on both sides of the line between two boys, i not after k.
func (p parting) parted(i, k int) bool {
	outside := slices.Concat(p[:i+1], p[k+1:])
	for _, mob := range p[i+1 : k+1] {
		if slices.Contains(outside, mob) {
			return true
		}
	}
	return false
}

// around returns the parting in which each beast is where the one was that stands so many places ahead.
func (p parting) around(by int) parting {
	n := len(p)
	if n == 0 {
		return nil
	}
	// by is made small first, since it may be any int.
	first := (by%n + n) % n
	return numbered(slices.Concat(p[first:], p[:first]))
}
