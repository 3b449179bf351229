package vote

import (
	"slices"

	"droveway/api"
)

// game tells of each set of n drovers whether it wins. A set that contains a winning one wins too, the empty set loses, and
// the set of all wins: every body and every rule makes such a game.
type game struct {
	n    int
	wins []bool
}

func newGame(n int, wins func(set int) bool) game {
	g := game{n, make([]bool, 1<<n)}
	for set := range g.wins {
		g.wins[set] = wins(set)
	}
	return g
}

// gameOfBody is false if b is not a body.
func gameOfBody(b api.Body) (game, bool) {
	n := len(b.Weights)
	if n < 1 || n > api.MaxDrovers || slices.ContainsFunc(b.Weights, isNoWeight) {
		return game{}, false
	}
	sum := sums(b.Weights...)
	if b.Quota < 1 || b.Quota > sum[len(sum)-1] {
		return game{}, false
	}
	return newGame(n, func(set int) bool { return sum[set] >= b.Quota }), true
}

func isNoWeight(w int) bool { return w < 0 || w > api.MaxWeight }

// sums returns the sum of the weights of each set.
func sums(weights ...int) []int {
	out := make([]int, 1, 1<<len(weights))
	for _, w := range weights {
		// The sets with this drover come after all those of the drovers before, in the same order.
		for _, sum := range out {
			out = append(out, sum+w)
		}
	}
	return out
}

// gameOfRule is false if n is out of range, or rule is not a rule of n drovers.
func gameOfRule(n int, rule []int) (game, bool) {
	if n < 1 || n > api.MaxRuled || !isRule(n, rule) {
		return game{}, false
	}
	return newGame(n, func(set int) bool { return containsOne(set, rule) }), true
}

func isRule(n int, rule []int) bool {
	for i, set := range rule {
		if set < 1 || set >= 1<<n || i > 0 && rule[i-1] >= set {
			return false
		}
		// A set that is contained in another one is the smaller number of both.
		if containsOne(set, rule[:i]) {
			return false
		}
	}
	return len(rule) > 0
}

// containsOne reports whether a set contains one of the others.
func containsOne(set int, others []int) bool {
	return slices.ContainsFunc(others, func(o int) bool { return set&o == o })
}

// all is the set of all drovers.
func (g game) all() int { return 1<<g.n - 1 }

// knows reports whether the number is a set of the drovers.
func (g game) knows(set int) bool { return set >= 0 && set <= g.all() }

// turns reports whether a drover turns a set.
func (g game) turns(d, set int) bool {
	with := set | 1<<d
	return with != set && !g.wins[set] && g.wins[with]
}

// turned returns how many sets a drover turns.
func (g game) turned(d int) int {
	count := 0
	for set := range g.wins {
		if g.turns(d, set) {
			count++
		}
	}
	return count
}

// turnedOrders returns, for each drover, in how many orders this drover turns the set of those before them.
func (g game) turnedOrders() []int {
	count := make([]int, g.n)
	var next func(before, left int)
	next = func(before, left int) {
		for d := range g.n {
			with := before | 1<<d
			switch {
			case with == before:
			case g.wins[with]:
				// The others that are left come after this drover, in any order.
				count[d] += factorial(left - 1)
			default:
				next(with, left-1)
			}
		}
	}
	next(0, g.n)
	return count
}

// least returns the winning sets from which no drover can be taken away such that the rest wins.
func (g game) least() []int {
	var least []int
	for set, wins := range g.wins {
		// The smaller numbers have been looked at: if a set that is contained in this one wins, one of the least does.
		if wins && !containsOne(set, least) {
			least = append(least, set)
		}
	}
	return least
}

func factorial(n int) int {
	product := 1
	for f := 2; f <= n; f++ {
		product *= f
	}
	return product
}

// ratio returns num / den in lowest terms.
func ratio(num, den int) api.Ratio {
	a, b := num, den
	for b != 0 {
		a, b = b, a%b
	}
	return api.Ratio{Num: num / a, Den: den / a}
}
