package brands

import (
	"slices"

	"droveway/api"
)

// isRound reports whether the list is a round list.
func isRound(round []int) bool {
	if len(round) < 3 || len(round) > api.MaxCorners {
		return false
	}
	for _, number := range round {
		if number < 1 || number > api.MaxCorners {
			return false
		}
	}
	return true
}

// numbers keeps e(i, k) for the pair of i and k: i is a corner, and k is from i to i + n.
type numbers map[api.Pair]int

// addFrom puts in the numbers between a corner i and every k.
func (e numbers) addFrom(round []int, i int) {
	n := len(round)
	e[api.Pair{A: i, B: i}] = 0
	e[api.Pair{A: i, B: i + 1}] = 1
	for k := i + 1; k < i+n; k++ {
		e[api.Pair{A: i, B: k + 1}] = round[k%n]*e[api.Pair{A: i, B: k}] - e[api.Pair{A: i, B: k - 1}]
	}
}

// numbersOf keeps the numbers between all corners and every k.
func numbersOf(round []int) numbers {
	e := numbers{}
	for i := range round {
		e.addFrom(round, i)
	}
	return e
}

// isEar reports whether the number at a corner is 1, and those of its neighbours are greater.
func isEar(round []int, corner int) bool {
	n := len(round)
	return round[corner] == 1 && round[ahead(n, corner)] > 1 && round[after(n, corner)] > 1
}

// findEar returns the first corner that is an ear, or -1 if there is none.
func findEar(round []int) int {
	for corner := range round {
		if isEar(round, corner) {
			return corner
		}
	}
	return -1
}

// cut returns the list without the ear at a corner.
func cut(round []int, corner int) []int {
	n := len(round)
	out := slices.Clone(round)
	out[ahead(n, corner)]--
	out[after(n, corner)]--
	return slices.Delete(out, corner, corner+1)
}

// linesOf returns the lines of the brand that has the round list, and whether there is one. Each ear of the list is a
// triangle, so that any of them can be cut off first, until one triangle is left.
func linesOf(round []int) ([]api.Pair, bool) {
	var corners []int
	for c := range round {
		corners = append(corners, c)
	}
	var lines []api.Pair
	for len(corners) > 3 {
		n := len(corners)
		ear := findEar(round)
		if ear < 0 {
			return nil, false
		}
		lines = append(lines, lineOf(corners[ahead(n, ear)], corners[after(n, ear)]))
		round = cut(round, ear)
		corners = slices.Delete(corners, ear, ear+1)
	}
	return sorted(compare, lines), slices.Max(round) == 1
}
