package mobs_test

import (
	"math"
	"math/big"
	"math/rand/v2"
	"slices"
	"testing"

	"droveway/api"
)

// This file has the tests' own ways to tell what the package tells: slow ones, close to the chapter's words.

// bells are the numbers of partings of no beasts, one, two, and so on.
var bells = []int{1, 1, 2, 5, 15, 52, 203, 877, 4140, 21147, 115975, 678570, 4213597}

// catalans are those of the partings that are not crossed.
var catalans = []int{1, 1, 2, 5, 14, 42, 132, 429, 1430, 4862, 16796, 58786, 208012}

// wild are numbers that are out of every range, or at its ends.
var wild = []int{-1, -2, -12, -13, 12, 13, 14, 63, 64, 1 << 31, 1<<31 - 1, -1 << 31, 1 << 32, 1<<32 + 1, 1 << 62, math.MaxInt, math.MaxInt - 1, math.MinInt, math.MinInt + 1}

// notPartings are lists of at most twelve numbers that are no partings.
var notPartings = [][]int{
	{1}, {-1}, {2}, {12}, {math.MaxInt}, {math.MinInt}, {1 << 32}, {1, 0}, {1, 1}, {0, 2}, {0, -1}, {-1, 0}, {0, math.MaxInt}, {0, math.MinInt}, {0, 1<<32 + 1}, {0, 0, 2}, {0, 1, 3}, {0, 2, 1}, {1, 0, 2}, {0, 1, -1}, {1, 2, 3}, {0, 1, 0, 3}, {0, 0, 0, 2},
	{0, 1, 2, 3, 4, 5, 6, 7, 8, 9, 10, 12}, {1, 2, 3, 4, 5, 6, 7, 8, 9, 10, 11, 12}, {0, 0, 0, 0, 0, 0, 0, 0, 0, 0, 0, 2}, {0, 0, 0, 0, 0, 0, 0, 0, 0, 0, 0, -1}, {11, 10, 9, 8, 7, 6, 5, 4, 3, 2, 1, 0}, {0, 1, 2, 3, 4, 5, 6, 7, 8, 9, 11, 10},
}

// tooLong are lists of more than twelve numbers.
func tooLong() [][]int {
	ascending := make([]int, 13)
	for i := range ascending {
		ascending[i] = i
	}
	return [][]int{make([]int, 13), ascending, slices.Repeat([]int{-1}, 13), slices.Repeat([]int{0, 1}, 50), make([]int, 1<<16), append([]int{5}, make([]int, 12)...)}
}

// slowPartingError goes by the words of the chapter: beast i is in the mob whose number is how many mobs have lesser least beasts.
func slowPartingError(list []int) api.Errno {
	if len(list) > 12 {
		return api.ErrLimit
	}
	for i, mob := range list {
		before := 0
		for k := range slices.Index(list, list[i]) {
			if slices.Index(list, list[k]) == k {
				before++
			}
		}
		if mob != before {
			return api.ErrArg
		}
	}
	return api.OK
}

// eachParting calls a function with all partings of n beasts, in order, until it returns false. The list is not to be kept.
func eachParting(n int, yield func(list []int) bool) {
	list := make([]int, n)
	var from func(i, mobs int) bool
	from = func(i, mobs int) bool {
		if i == n {
			return yield(list)
		}
		for list[i] = 0; list[i] <= mobs; list[i]++ {
			if !from(i+1, max(mobs, list[i]+1)) {
				return false
			}
		}
		return true
	}
	from(0, 0)
}

// allPartings returns all partings of n beasts, in order.
func allPartings(n int) [][]int {
	var out [][]int
	for list := range func(yield func(list []int) bool) { eachParting(n, yield) } {
		out = append(out, slices.Clone(list))
	}
	return out
}

// plainPartings returns those that are not crossed.
func plainPartings(n int) [][]int {
	return slices.DeleteFunc(allPartings(n), func(list []int) bool { return len(slowCrossings(list)) > 0 })
}

// randomPartings returns partings of n beasts, of few mobs and of many.
func randomPartings(count, n int) [][]int {
	r := rand.New(rand.NewPCG(uint64(count), uint64(n)))
	var out [][]int
	for range count {
		marks := make([]int, n)
		most := 1 + r.IntN(n+1)
		for i := range marks {
			marks[i] = r.IntN(most)
		}
		out = append(out, slowNumber(marks))
	}
	return out
}

// randomPlain returns partings that are not crossed: each beast is alone, or in a mob beside which no later one was begun.
func randomPlain(count, n int) [][]int {
	r := rand.New(rand.NewPCG(uint64(count), uint64(n+100)))
	var out [][]int
	for range count {
		var open, marks []int
		for i := range n {
			if open = open[:r.IntN(len(open)+1)]; len(open) == 0 || r.IntN(2) == 0 {
				open = append(open, i)
			}
			marks = append(marks, open[len(open)-1])
		}
		out = append(out, slowNumber(marks))
	}
	return out
}

// related numbers the mobs of a relation between n beasts that is an equivalence.
func related(t *testing.T, n int, same func(i, k int) bool) []int {
	t.Helper()
	list := make([]int, n)
	mobs := 0
	for i := range n {
		list[i] = -1
		for k := range n {
			if same(i, k) != same(k, i) || i == k && !same(i, k) {
				t.Fatal("no equivalence:", i, k)
			}
			if k < i && same(i, k) {
				if list[i] >= 0 && list[i] != list[k] {
					t.Fatal("no equivalence:", i, k)
				}
				list[i] = list[k]
			}
		}
		if list[i] < 0 {
			list[i] = mobs
			mobs++
		}
	}
	return list
}

// slowNumber gives new numbers in the order in which the old ones come.
func slowNumber(of []int) []int {
	numbers := map[int]int{}
	var out []int
	for _, x := range of {
		if _, ok := numbers[x]; !ok {
			numbers[x] = len(numbers)
		}
		out = append(out, numbers[x])
	}
	return out
}

// slowMobs asks for the beasts of each number.
func slowMobs(list []int) [][]int {
	var out [][]int
	for mob := range len(list) {
		var beasts []int
		for i := range list {
			if list[i] == mob {
				beasts = append(beasts, i)
			}
		}
		if len(beasts) > 0 {
			out = append(out, beasts)
		}
	}
	return out
}

func slowFiner(a, b []int) bool {
	for i := range a {
		for k := range a {
			if a[i] == a[k] && b[i] != b[k] {
				return false
			}
		}
	}
	return true
}

// slowMeet takes two beasts for one mob of the second parting if there is a way between them that stays in a mob of a or of b at
// each step.
func slowMeet(t *testing.T, a, b []int) ([]int, []int) {
	t.Helper()
	n := len(a)
	way := make([][]bool, n)
	for i := range way {
		way[i] = make([]bool, n)
		for k := range way {
			way[i][k] = a[i] == a[k] || b[i] == b[k]
		}
	}
	for over := range n {
		for i := range n {
			for k := range n {
				way[i][k] = way[i][k] || way[i][over] && way[over][k]
			}
		}
	}
	first := related(t, n, func(i, k int) bool { return a[i] == a[k] && b[i] == b[k] })
	second := related(t, n, func(i, k int) bool { return way[i][k] })
	return first, second
}

// slowCrossings returns all four beasts for which the list is crossed, in any order.
func slowCrossings(list []int) [][4]int {
	var out [][4]int
	for d := range list {
		for b := range d {
			for c := b + 1; c < d; c++ {
				for a := range b {
					if list[a] == list[c] && list[b] == list[d] && list[a] != list[b] {
						out = append(out, [4]int{a, b, c, d})
					}
				}
			}
		}
	}
	return out
}

func slowCrossed(list []int) ([4]int, bool) {
	crossings := slowCrossings(list)
	if len(crossings) == 0 {
		return [4]int{}, false
	}
	return slices.MinFunc(crossings, func(a, b [4]int) int { return slices.Compare(a[:], b[:]) }), true
}

// isPlain goes through the beasts once, with the mobs that may still go on.
func isPlain(list []int) bool {
	var open []int
	seen := 0
	for _, mob := range list {
		if mob == seen {
			open = append(open, mob)
			seen++
			continue
		}
		at := slices.Index(open, mob)
		if at < 0 {
			return false
		}
		open = open[:at+1]
	}
	return true
}

// slowBetween looks at the sides of all pairs of beasts that are in one mob.
func slowBetween(t *testing.T, list []int) []int {
	t.Helper()
	return related(t, len(list), func(i, k int) bool {
		inside := func(beast int) bool { return beast > min(i, k) && beast <= max(i, k) }
		for a := range list {
			for b := range list {
				if list[a] == list[b] && inside(a) != inside(b) {
					return false
				}
			}
		}
		return true
	})
}

func slowAround(list []int, by int) []int {
	var marks []int
	for i := range list {
		n := big.NewInt(int64(len(list)))
		at := new(big.Int).Add(big.NewInt(int64(i)), big.NewInt(int64(by)))
		marks = append(marks, list[at.Mod(at, n).Int64()])
	}
	return slowNumber(marks)
}

func mobsOf(list []int) int { return len(slowMobs(list)) }
