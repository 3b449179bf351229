package brands_test

import (
	"math/rand/v2"
	"slices"
	"testing"

	"droveway/api"
)

// This file has the tests' own ways to tell what the package tells: slow ones, close to the chapter's words.

// lines makes a list of lines from their corners.
func lines(l ...int) []api.Pair {
	var out []api.Pair
	for i := 0; i < len(l); i += 2 {
		out = append(out, api.Pair{A: l[i], B: l[i+1]})
	}
	return out
}

// made is a number of corners and lines, which may be a brand.
type made struct {
	n     int
	lines []api.Pair
}

// Brands that many tests use: a triangle, a square, a pentagon, a fan, a zigzag, a star of ears, and a great one of all these.
var (
	tri    = made{3, nil}
	square = made{4, lines(0, 2)}
	five   = made{5, lines(1, 3, 1, 4)}
	fan    = made{8, lines(0, 2, 0, 3, 0, 4, 0, 5, 0, 6)}
	zigzag = made{8, lines(1, 6, 1, 7, 2, 5, 2, 6, 3, 5)}
	star   = made{6, lines(0, 2, 0, 4, 2, 4)}
	great  = made{12, lines(0, 2, 0, 4, 0, 8, 2, 4, 4, 6, 4, 8, 6, 8, 8, 10, 8, 11)}
)

// strictlyBetween reports whether c is one of the corners after a and before b.
func strictlyBetween(c, a, b int) bool { return a < c && c < b }

// slowCross reports whether each line has just one of its corners strictly between those of the other one.
func slowCross(p, q api.Pair) bool {
	one := strictlyBetween(p.A, q.A, q.B) != strictlyBetween(p.B, q.A, q.B)
	other := strictlyBetween(q.A, p.A, p.B) != strictlyBetween(q.B, p.A, p.B)
	return one && other
}

// allLines returns all lines of a polygon, in order.
func allLines(n int) []api.Pair {
	var out []api.Pair
	for a := range n {
		for b := a + 2; b < n; b++ {
			if a != 0 || b != n-1 {
				out = append(out, api.Pair{A: a, B: b})
			}
		}
	}
	return out
}

// slowIsBrand goes by the words of the chapter, one after the other.
func slowIsBrand(n int, list []api.Pair) bool {
	if n < 3 || n > 12 || len(list) != n-3 {
		return false
	}
	all := allLines(n)
	for i, p := range list {
		if !slices.Contains(all, p) {
			return false
		}
		for _, q := range list[i+1:] {
			if slices.Index(all, p) >= slices.Index(all, q) || slowCross(p, q) {
				return false
			}
		}
	}
	return true
}

// allBrands returns all brands of n corners: all choices of lines that do not cross.
func allBrands(n int) []made {
	var out []made
	var choose func(chosen, rest []api.Pair)
	choose = func(chosen, rest []api.Pair) {
		if len(chosen) == n-3 {
			out = append(out, made{n, slices.Clone(chosen)})
			return
		}
		for i, l := range rest {
			if !slices.ContainsFunc(chosen, func(c api.Pair) bool { return slowCross(c, l) }) {
				choose(append(chosen, l), rest[i+1:])
			}
		}
	}
	choose(nil, allLines(n))
	return out
}

// brandsTo returns all brands of 3 to most corners.
func brandsTo(most int) []made {
	var out []made
	for n := 3; n <= most; n++ {
		out = append(out, allBrands(n)...)
	}
	return out
}

// greatBrands returns all brands of up to 8 corners, and each of the greater ones that comes after step others.
func greatBrands(step int) []made {
	out := brandsTo(8)
	for n := 9; n <= 12; n++ {
		for i, b := range allBrands(n) {
			if i%step == 0 {
				out = append(out, b)
			}
		}
	}
	return append(out, great)
}

// slowTriangles cuts along a line, and what is left on both sides along other ones.
func slowTriangles(corners []int, list []api.Pair) [][3]int {
	if len(corners) == 3 {
		return [][3]int{[3]int(corners)}
	}
	for _, l := range list {
		i, k := slices.Index(corners, l.A), slices.Index(corners, l.B)
		if i < 0 || k < 0 || k-i < 2 || k-i == len(corners)-1 {
			continue
		}
		inner := slices.Clone(corners[i : k+1])
		outer := slices.Concat(corners[:i+1], corners[k:])
		out := append(slowTriangles(inner, list), slowTriangles(outer, list)...)
		slices.SortFunc(out, func(s, t [3]int) int { return slices.Compare(s[:], t[:]) })
		return out
	}
	panic("no brand")
}

// trianglesOf returns all triangles of a brand.
func trianglesOf(b made) [][3]int { return slowTriangles(upTo(b.n), b.lines) }

func upTo(n int) []int {
	var out []int
	for i := range n {
		out = append(out, i)
	}
	return out
}

// slowRound counts lines: one more than lead to a corner are the triangles that have it.
func slowRound(b made) []int {
	out := slices.Repeat([]int{1}, b.n)
	for _, l := range b.lines {
		out[l.A]++
		out[l.B]++
	}
	return out
}

// slowBetween takes the numbers strictly between i and k from the other end than the chapter does.
func slowBetween(round []int, i, k int) int {
	switch k - i {
	case 0:
		return 0
	case 1:
		return 1
	}
	return round[(i+1)%len(round)]*slowBetween(round, i+1, k) - slowBetween(round, i+2, k)
}

func slowClosed(round []int) bool {
	for i := range round {
		if slowBetween(round, i, i+len(round)-1) != 1 || slowBetween(round, i, i+len(round)) != 0 {
			return false
		}
	}
	return true
}

// slowChoices looks at all lists of triangles, one for each corner, whether they are different or not.
func slowChoices(b made, i, k int) int {
	lists := [][][3]int{nil}
	for c := (i + 1) % b.n; c != k; c = (c + 1) % b.n {
		var longer [][][3]int
		for _, list := range lists {
			for _, t := range trianglesOf(b) {
				if slices.Contains(t[:], c) {
					longer = append(longer, append(slices.Clone(list), t))
				}
			}
		}
		lists = longer
	}
	ways := 0
	for _, list := range lists {
		if allDifferent(list) {
			ways++
		}
	}
	return ways
}

func allDifferent(list [][3]int) bool {
	for i, t := range list {
		if slices.Contains(list[i+1:], t) {
			return false
		}
	}
	return true
}

// slowFlip puts each line in the place of the one that goes, until there is a brand.
func slowFlip(b made, line int) []api.Pair {
	for _, l := range allLines(b.n) {
		if l == b.lines[line] {
			continue
		}
		out := slices.Clone(b.lines)
		out[line] = l
		slices.SortFunc(out, func(p, q api.Pair) int { return slices.Compare([]int{p.A, p.B}, []int{q.A, q.B}) })
		if slowIsBrand(b.n, out) {
			return out
		}
	}
	panic("no brand")
}

// allRounds calls f with all round lists of n numbers up to most.
func allRounds(n, most int, f func(round []int)) {
	round := slices.Repeat([]int{1}, n)
	for {
		f(slices.Clone(round))
		i := 0
		for i < n && round[i] == most {
			round[i] = 1
			i++
		}
		if i == n {
			return
		}
		round[i]++
	}
}

// randomRounds returns round lists of any length and with any numbers, small ones above all.
func randomRounds(count int) [][]int {
	r := rand.New(rand.NewPCG(1, 2))
	var out [][]int
	for i := range count {
		round := make([]int, 3+r.IntN(10))
		for k := range round {
			round[k] = 1 + r.IntN(2+i%11)
		}
		out = append(out, round)
	}
	return out
}

// notRounds are lists that are no round lists.
var notRounds = [][]int{
	nil, {}, {1}, {1, 1}, slices.Repeat([]int{1}, 13), slices.Repeat([]int{2}, 100),
	{0, 1, 1}, {1, 0, 1}, {1, 1, 0}, {1, 1, -1}, {13, 1, 1}, {1, 13, 1}, {2, 1, 2, 13}, {-1 << 63, 1, 1}, {1, 1<<63 - 1, 1},
}

// notBrands are numbers of corners and lists of lines that are no brands.
var notBrands = []made{
	// No such polygon.
	{2, nil}, {0, nil}, {-3, nil}, {1 << 62, nil}, {-1 << 63, nil}, {1<<63 - 1, lines(0, 2)}, {2, lines(0, 2)},
	{13, lines(0, 2, 0, 3, 0, 4, 0, 5, 0, 6, 0, 7, 0, 8, 0, 9, 0, 10, 0, 11)},
	// Too few lines, and too many.
	{4, nil}, {5, lines(0, 2)}, {3, lines(0, 2)}, {4, lines(0, 2, 1, 3)}, {5, lines(0, 2, 0, 3, 1, 3)}, {12, lines(0, 2)},
	// No lines: neighbours, corners that are the same, that are turned around, or that are none.
	{4, lines(0, 1)}, {4, lines(2, 3)}, {4, lines(0, 3)}, {5, lines(0, 2, 0, 4)}, {4, lines(1, 1)}, {4, lines(2, 0)}, {4, lines(3, 1)},
	{4, lines(-1, 1)}, {4, lines(0, 4)}, {4, lines(1, 4)}, {4, lines(-2, 2)}, {4, lines(-1<<63, 1<<63-1)}, {4, lines(0, 1<<32+2)}, {5, lines(0, 2, 2, 5)},
	// The same twice, out of order, and lines that cross.
	{5, lines(0, 2, 0, 2)}, {5, lines(0, 3, 0, 2)}, {5, lines(1, 3, 0, 3)}, {5, lines(2, 4, 0, 2)}, {5, lines(0, 2, 1, 3)}, {5, lines(0, 3, 1, 4)},
	{6, lines(0, 2, 2, 4, 0, 4)}, {6, lines(0, 3, 1, 3, 2, 4)}, {6, lines(0, 3, 1, 4, 2, 5)}, {6, lines(0, 2, 0, 3, 1, 5)},
}

// TestSlow: the tests' own ways agree with what is known.
func TestSlow(t *testing.T) {
	for i, want := range []int{1, 2, 5, 14, 42, 132, 429} {
		if got := len(allBrands(i + 3)); got != want {
			t.Error(i+3, got, want)
		}
	}
	for _, b := range notBrands {
		if slowIsBrand(b.n, b.lines) {
			t.Error("a brand:", b)
		}
	}
	for _, b := range []made{tri, square, five, fan, zigzag, star, great} {
		if !slowIsBrand(b.n, b.lines) {
			t.Error("no brand:", b)
		}
	}
	if got := slowBetween([]int{2, 1, 2, 1}, 0, 3); got != 1 {
		t.Error(got)
	}
}
