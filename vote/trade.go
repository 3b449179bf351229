package vote

import (
	"math"

	"droveway/api"
)

// isTrade reports whether the first two sets win, the last two lose, and each drover is in as many of these as of those.
func (g game) isTrade(s [4]int) bool {
	a, b, c, d := s[0], s[1], s[2], s[3]
	return g.wins[a] && g.wins[b] && !g.wins[c] && !g.wins[d] && a&b == c&d && a|b == c|d
}

// trade returns the lexicographically least trade a, b, c, d with a at most b and c at most d; it is false if there is none.
func (g game) trade() ([4]int, bool) {
	for a := range g.wins {
		for b := a; b < len(g.wins); b++ {
			for c := range g.wins {
				// The last set is the only one with which each drover can be in as many sets as before.
				d := a ^ b ^ c
				if sets := [4]int{a, b, c, d}; c <= d && g.isTrade(sets) {
					return sets, true
				}
			}
		}
	}
	return [4]int{}, false
}

// lightest returns the body of the least sum whose sets win as in the game, of several the one with the lexicographically
// least weights, and then the least quota; it is false if there is none with light weights.
func (g game) lightest() (api.Body, bool) {
	for sum := 1; sum <= g.n*api.MaxLight; sum++ {
		if b, ok := g.complete(make([]int, 0, g.n), sum); ok {
			return b, true
		}
	}
	return api.Body{}, false
}

// complete returns the first body that begins with the weights, and whose other weights have the sum that is left.
func (g game) complete(weights []int, left int) (api.Body, bool) {
	quota, ok := g.quota(weights)
	if !ok {
		return api.Body{}, false
	}
	after := g.n - len(weights) - 1
	if after < 0 {
		return api.Body{Quota: quota, Weights: weights}, true
	}
	// What the next drover leaves must not be too much for those after this one.
	for w := max(0, left-after*api.MaxLight); w <= min(left, api.MaxLight); w++ {
		if b, ok := g.complete(append(weights, w), left-w); ok {
			return b, true
		}
	}
	return api.Body{}, false
}

// quota returns the least quota with which the sets of the first drovers win as in the game if these have the weights; it is
// false if there is none.
func (g game) quota(weights []int) (int, bool) {
	loser, winner := 0, math.MaxInt
	for set, s := range sums(weights...) {
		if g.wins[set] {
			winner = min(winner, s)
		} else {
			loser = max(loser, s)
		}
	}
	return loser + 1, loser < winner
}
