package wager_test

import (
	"math"
	"math/big"
	"slices"

	"droveway/api"
)

// This file has the tests' own ways to tell what the package tells: slow ones, close to the chapter's words.

// most is the greatest heap that there can be.
const most = 1 << 40

// wild are numbers that are out of every range, or at its ends.
var wild = []int{-1, -2, -6, -7, -most, -most - 1, most, most - 1, most + 1, 1<<40 + 1<<20, 1 << 31, 1<<31 - 1, -1 << 31, 1 << 32, 1<<32 + 1, 1<<32 + 2, 1 << 62, 1 << 63 / 2, math.MaxInt, math.MaxInt - 1, math.MinInt, math.MinInt + 1}

// notBars are lists that are no bars.
var notBars = [][]int{
	nil, {}, {-1}, {8}, {math.MaxInt}, {math.MinInt}, {1 << 32}, {1<<32 + 1}, {0, 1}, {1, 2}, {6, 7}, {7, 8}, {8, 7}, {3, -1}, {0, -1}, {0, math.MinInt}, {3, 2, 3}, {2, 1, 0, 1}, {7, 7, 7, 7, 7, 8}, {7, 7, 7, 7, 7, -1}, {5, 4, 3, 2, 1, 2}, {math.MaxInt, 1}, {1, math.MaxInt},
	{0, 0, 0, 0, 0, 0, 0}, {7, 7, 7, 7, 7, 7, 7}, {7, 6, 5, 4, 3, 2, 1}, {1, 1, 1, 1, 1, 1, 0}, make([]int, 8), make([]int, 1<<16),
}

func isHeap(n int) bool { return n >= 0 && n <= most }

// slowFibonacci returns all Fibonacci numbers up to most, the least first.
func slowFibonacci(most int) []int {
	list := []int{1, 2}
	for list[len(list)-1] <= most {
		list = append(list, list[len(list)-1]+list[len(list)-2])
	}
	for len(list) > 0 && list[len(list)-1] > most {
		list = list[:len(list)-1]
	}
	return list
}

// slowNim keeps who wins Fibonacci nim.
type slowNim map[[2]int]bool

// wins tries all moves.
func (known slowNim) wins(heap, limit int) bool {
	at := [2]int{heap, min(limit, heap)}
	wins, is := known[at]
	if !is {
		wins = known.least(heap, limit) > 0
		known[at] = wins
	}
	return wins
}

// least returns the least winning number of matches, or 0.
func (known slowNim) least(heap, limit int) int {
	for taken := 1; taken <= min(heap, limit); taken++ {
		if !known.wins(heap-taken, 2*taken) {
			return taken
		}
	}
	return 0
}

// slowEuclid keeps who wins Euclid's game.
type slowEuclid map[[2]int]bool

// slowEuclidMoves returns the heaps after each move, the one that takes least first.
func slowEuclidMoves(a, b int) [][2]int {
	var list [][2]int
	switch {
	case a == 0 || b == 0:
	case a == b:
		list = append(list, [2]int{a, 0})
	case a > b:
		for rest := a - b; rest >= 0; rest -= b {
			list = append(list, [2]int{rest, b})
		}
	default:
		for rest := b - a; rest >= 0; rest -= a {
			list = append(list, [2]int{a, rest})
		}
	}
	return list
}

func (known slowEuclid) wins(a, b int) bool {
	at := [2]int{a, b}
	wins, is := known[at]
	if !is {
		_, wins = known.best(a, b)
		known[at] = wins
	}
	return wins
}

func (known slowEuclid) best(a, b int) ([2]int, bool) {
	for _, after := range slowEuclidMoves(a, b) {
		if !known.wins(after[0], after[1]) {
			return after, true
		}
	}
	return [2]int{}, false
}

// slowGolden reports whether the heaps, both above 0, are the same, or x x - x y - y y is above 0 for the greater one x.
func slowGolden(a, b int) bool {
	x, y := big.NewInt(int64(max(a, b))), big.NewInt(int64(min(a, b)))
	sum := new(big.Int).Mul(x, x)
	sum.Sub(sum, new(big.Int).Mul(x, y))
	sum.Sub(sum, new(big.Int).Mul(y, y))
	return a == b || sum.Sign() > 0
}

// slowBarError goes by the words of the chapter.
func slowBarError(bar []int) api.Errno {
	if len(bar) < 1 || len(bar) > 6 {
		return api.ErrArg
	}
	for i, x := range bar {
		if x < 0 || x > 7 || i > 0 && x > bar[i-1] {
			return api.ErrArg
		}
	}
	return api.OK
}

// slowPieces returns the pieces of a bar, by row, then by column.
func slowPieces(bar []int) [][2]int {
	var pieces [][2]int
	for r := range bar {
		for c := range bar[r] {
			pieces = append(pieces, [2]int{r, c})
		}
	}
	return pieces
}

// slowBitten takes all pieces away that have at least this row and this column, one by one.
func slowBitten(bar []int, row, column int) []int {
	after := make([]int, len(bar))
	for _, piece := range slowPieces(bar) {
		if piece[0] < row || piece[1] < column {
			after[piece[0]]++
		}
	}
	return after
}

// slowChomp keeps who wins Chomp: a bar is the key by the pieces that are there.
type slowChomp map[string]bool

func slowKey(bar []int) string {
	key := ""
	for _, piece := range slowPieces(bar) {
		key += string(rune('A' + 7*piece[0] + piece[1]))
	}
	return key
}

// wins reports whether the player who is next can force that the other one takes the corner.
func (known slowChomp) wins(bar []int) bool {
	key := slowKey(bar)
	wins, is := known[key]
	if !is {
		wins = len(known.winning(bar)) > 0
		known[key] = wins
	}
	return wins
}

// winning returns the pieces by which the player who is next forces that.
func (known slowChomp) winning(bar []int) [][2]int {
	var list [][2]int
	for _, piece := range slowPieces(bar) {
		if piece != [2]int{} && !known.wins(slowBitten(bar, piece[0], piece[1])) {
			list = append(list, piece)
		}
	}
	return list
}

// eachBar calls a function with all bars of just so many rows and at most so many columns, in lexicographic order, until it
// returns false.
func eachBar(rows, columns int, yield func(bar []int) bool) {
	bar := make([]int, rows)
	for {
		if slowBarError(bar) == api.OK && !yield(slices.Clone(bar)) {
			return
		}
		i := rows - 1
		for i >= 0 && bar[i] == columns {
			bar[i] = 0
			i--
		}
		if i < 0 {
			return
		}
		bar[i]++
	}
}

// slowSizeError goes by the words of the chapter.
func slowSizeError(rows, columns int) api.Errno {
	switch {
	case rows < 1 || rows > 6 || columns < 1 || columns > 7:
		return api.ErrArg
	case rows*columns > 24:
		return api.ErrFull
	}
	return api.OK
}

// slowGrundy keeps the Grundy of each heap and limit.
type slowGrundy map[[2]int]int

func (known slowGrundy) of(heap, limit int) int {
	at := [2]int{heap, min(heap, limit)}
	number, is := known[at]
	if !is {
		after := map[int]bool{}
		for taken := 1; taken <= min(heap, limit); taken++ {
			after[known.of(heap-taken, 2*taken)] = true
		}
		for after[number] {
			number++
		}
		known[at] = number
	}
	return number
}
