package graze_test

import (
	"math"
	"math/rand/v2"
	"slices"
	"strings"

	"droveway/api"
)

// This file has the tests' own ways to tell what the package tells: slow ones, close to the chapter's words.

// wild are numbers that are out of every range, or at its ends.
var wild = []int{-1, -2, -3, -5, -6, -7, -8, 7, 8, 9, 11, 12, 13, 63, 64, 65, 255, 256, 257, 1 << 31, 1<<31 - 1, -1 << 31, 1 << 32, 1<<32 + 1, 1<<32 + 2, 1 << 62, 1<<62 + 1, -1 << 62, math.MaxInt, math.MaxInt - 1, math.MinInt, math.MinInt + 1}

// eachSize calls a function with all sizes of a pasture.
func eachSize(f func(a, b int)) {
	for a := 1; a <= 6; a++ {
		for b := 1; b <= 6; b++ {
			f(a, b)
		}
	}
}

// eachState calls a function with all states of all pastures.
func eachState(f func(a, b int, state []int)) {
	eachSize(func(a, b int) {
		for _, state := range slowStates(a, b) {
			f(a, b, state)
		}
	})
}

// allLists returns all lists of so many numbers from least to most, in lexicographic order.
func allLists(length, least, most int) [][]int {
	lists := [][]int{{}}
	for range length {
		var longer [][]int
		for _, list := range lists {
			for x := least; x <= most; x++ {
				longer = append(longer, append(slices.Clone(list), x))
			}
		}
		lists = longer
	}
	return lists
}

func isSize(a, b int) bool { return a >= 1 && a <= 6 && b >= 1 && b <= 6 }

// isState goes by the words of the chapter.
func isState(a, b int, state []int) bool {
	if !isSize(a, b) || len(state) != a {
		return false
	}
	for i, x := range state {
		if x < 0 || x > b || i > 0 && x > state[i-1] {
			return false
		}
	}
	return true
}

// slowStates picks the states of all lists, in lexicographic order.
func slowStates(a, b int) [][]int {
	var states [][]int
	for _, list := range allLists(a, 0, b) {
		if isState(a, b, list) {
			states = append(states, list)
		}
	}
	return states
}

// grid tells of each plot whether it is grazed.
type grid [6][6]bool

func gridOf(state []int) grid {
	var g grid
	for i, x := range state {
		for j := range x {
			g[i][j] = true
		}
	}
	return g
}

// state counts the grazed plots of each row.
func (g grid) state(a int) []int {
	state := make([]int, a)
	for i := range a {
		for _, grazed := range g[i] {
			if grazed {
				state[i]++
			}
		}
	}
	return state
}

// beyond returns the plots that a plot lies beyond.
func beyond(plot api.Pair) []api.Pair {
	var list []api.Pair
	if plot.A > 0 {
		list = append(list, api.Pair{A: plot.A - 1, B: plot.B})
	}
	if plot.B > 0 {
		list = append(list, api.Pair{A: plot.A, B: plot.B - 1})
	}
	return list
}

// slowPlots returns all plots, by row, then by column.
func slowPlots(a, b int) []api.Pair {
	var list []api.Pair
	for i := range a {
		for j := range b {
			list = append(list, api.Pair{A: i, B: j})
		}
	}
	return list
}

func isPlot(a, b int, plot api.Pair) bool { return slices.Contains(slowPlots(a, b), plot) }

func (g grid) isNext(plot api.Pair) bool {
	for _, nearer := range beyond(plot) {
		if !g[nearer.A][nearer.B] {
			return false
		}
	}
	return !g[plot.A][plot.B]
}

func (g grid) isEnd(a, b int, plot api.Pair) bool {
	for _, other := range slowPlots(a, b) {
		if slices.Contains(beyond(other), plot) && g[other.A][other.B] {
			return false
		}
	}
	return g[plot.A][plot.B]
}

// slowEnds returns all ends.
func slowEnds(a, b int, state []int) []api.Pair {
	g := gridOf(state)
	var list []api.Pair
	for _, plot := range slowPlots(a, b) {
		if g.isEnd(a, b, plot) {
			list = append(list, plot)
		}
	}
	return list
}

// slowNext returns all plots that are next.
func slowNext(a, b int, state []int) []api.Pair {
	g := gridOf(state)
	var list []api.Pair
	for _, plot := range slowPlots(a, b) {
		if g.isNext(plot) {
			list = append(list, plot)
		}
	}
	return list
}

// graze grazes a plot, and all plots that it lies beyond, directly or through other plots.
func (g *grid) graze(plot api.Pair) {
	g[plot.A][plot.B] = true
	for _, nearer := range beyond(plot) {
		g.graze(nearer)
	}
}

func slowDay(a, b int, state []int) []int {
	var after grid
	for _, plot := range slowNext(a, b, state) {
		after.graze(plot)
	}
	return after.state(a)
}

// slowBefore returns all states of which slowDay is the given one.
func slowBefore(a, b int, state []int) [][]int {
	var before [][]int
	for _, other := range slowStates(a, b) {
		if slices.Equal(slowDay(a, b, other), state) {
			before = append(before, other)
		}
	}
	return before
}

func slowTurn(a, b int, state []int, plot api.Pair) []int {
	g := gridOf(state)
	if isNext, isEnd := g.isNext(plot), g.isEnd(a, b, plot); isNext || isEnd {
		g[plot.A][plot.B] = isNext
	}
	return g.state(a)
}

func slowTurns(a, b int, state []int, plots []api.Pair) []int {
	state = slices.Clone(state)
	for _, plot := range plots {
		state = slowTurn(a, b, state, plot)
	}
	return state
}

// slowRound goes day by day until the state comes again.
func slowRound(a, b int, state []int) [][]int {
	round := [][]int{state}
	for next := slowDay(a, b, state); !slices.Equal(next, state); next = slowDay(a, b, next) {
		round = append(round, next)
	}
	return round
}

// slowDays finds the day in a round: n days more or less are so many rounds and a rest.
func slowDays(round [][]int, days int) []int {
	rest := days % len(round)
	if rest < 0 {
		rest += len(round)
	}
	return round[rest]
}

// slowSweepPlots sorts all plots by column less row, then by row.
func slowSweepPlots(a, b int) []api.Pair {
	plots := slowPlots(a, b)
	slices.SortFunc(plots, func(p, q api.Pair) int {
		if p.B-p.A != q.B-q.A {
			return (p.B - p.A) - (q.B - q.A)
		}
		return p.A - q.A
	})
	return plots
}

func slowWord(b int, state []int) string {
	word := ""
	for row := len(state) - 1; row >= 0; row-- {
		for strings.Count(word, "r") < state[row] {
			word += "r"
		}
		word += "u"
	}
	for strings.Count(word, "r") < b {
		word += "r"
	}
	return word
}

// isWord goes by the words of the chapter.
func isWord(a, b int, word string) bool {
	letters := map[rune]int{}
	for _, letter := range word {
		letters[letter]++
	}
	return letters['u'] == a && letters['r'] == b && len(letters) == 2
}

// notWords returns words of no state of a pasture, some of which nearly are one.
func notWords(a, b int) []string {
	u, r := strings.Repeat("u", a), strings.Repeat("r", b)
	return []string{
		"", "u", "r", " ", u, r, u[1:] + r, u + r[1:], u + r + "u", u + r + "r", "u" + u + r, "r" + u + r, u + r + " ", " " + u + r, u + " " + r, u + r + "\n", u + r + "\x00", "\x00" + u + r, u + r + "x", u + r + "\xff", "\xff" + u + r,
		u[1:] + "U" + r, u + r[1:] + "R", strings.ToUpper(u + r), u[1:] + "x" + r, u[1:] + "\x00" + r, u[1:] + "\xff" + r, u[1:] + "\u00fc" + r, u + "\u0155" + r[1:], u + r + "\u00fc", u[1:] + "r" + r, u + "u" + r[1:], strings.Repeat("x", a+b), strings.Repeat("\xff", a+b), strings.Repeat("\x00", a+b),
		u + r + u + r, strings.Repeat("u", 1<<16), strings.Repeat("ur", 1<<15), u + strings.Repeat("r", 256+b), strings.Repeat("u", 256+a) + r,
	}
}

// notStates returns lists that are no states of a pasture, some of which nearly are one.
func notStates(a, b int) [][]int {
	full, none := slices.Repeat([]int{b}, a), make([]int, a)
	lists := [][]int{nil, {}, full[1:], none[1:], append(slices.Clone(full), 0), append(slices.Clone(full), b), append(slices.Clone(none), 0), make([]int, 1<<16)}
	for at := range a {
		for _, x := range []int{b + 1, -1, math.MinInt, math.MaxInt, 1 << 32, -1 << 32} {
			for _, list := range [][]int{full, none} {
				list = slices.Clone(list)
				list[at] = x
				lists = append(lists, list)
			}
		}
		if at > 0 {
			rising := slices.Clone(none)
			rising[at] = 1
			falling := slices.Clone(full)
			falling[at-1] = b - 1
			lists = append(lists, rising, falling)
		}
	}
	return lists
}

// randomPlots returns so many plots, one after the other.
func randomPlots(r *rand.Rand, a, b, length int) []api.Pair {
	plots := make([]api.Pair, length)
	for k := range plots {
		plots[k] = api.Pair{A: r.IntN(a), B: r.IntN(b)}
	}
	return plots
}
