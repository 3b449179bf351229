package breed

import (
	"math/bits"

	"droveway/api"
)

// set is the sum of 2^beast.
type set int

// all is the set of the beasts 0 to n - 1.
func all(n int) set { return 1<<n - 1 }

// setWith returns the set that has the beasts.
func setWith(beasts ...int) set {
	s := set(0)
	for _, b := range beasts {
		s |= 1 << b
	}
	return s
}

// setOf returns the set of some of n beasts that is given as a number.
func setOf(n, number int) (set, api.Errno) {
	s := set(number)
	if s < 1 || s > all(n) {
		return 0, api.ErrArg
	}
	return s, api.OK
}

// isNumber reports whether there can be n beasts.
func isNumber(n int) bool { return n >= 1 && n <= api.MaxBeasts }

// isBeast reports whether b is one of n beasts.
func isBeast(n, b int) bool { return b >= 0 && b < n }

// beasts returns the set itself, so that what embeds one tells of its beasts.
func (s set) beasts() set { return s }

// has reports whether all beasts of the other set are in this one.
func (s set) has(other set) bool { return s&other == other }

// meets reports whether a beast is in both sets.
func (s set) meets(other set) bool { return s&other != 0 }

// least is the least beast of a set that has one.
func (s set) least() beast { return beast(bits.TrailingZeros(uint(s))) }

func (s set) count() int { return bits.OnesCount(uint(s)) }
