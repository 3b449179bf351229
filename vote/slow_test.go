package vote_test

import (
	"math"
	"math/rand/v2"
	"slices"

	"droveway/api"
)

// This file has the tests' own ways to tell what the package tells: slow ones, close to the chapter's words.

// ruled is a number of drovers and a list of sets, which may be a rule.
type ruled struct {
	n    int
	rule []int
}

// Bodies that many tests use.
var (
	ordinary = api.Body{Quota: 3, Weights: []int{2, 1, 1}}
	one      = api.Body{Quota: 1, Weights: []int{1}}
	zeros    = api.Body{Quota: 2, Weights: []int{0, 2, 0, 1}}
	allMust  = api.Body{Quota: 8000, Weights: slices.Repeat([]int{1000}, 8)}
	eight    = api.Body{Quota: 19, Weights: []int{9, 8, 7, 6, 3, 2, 1, 0}}
)

// notBodies are out of one of a body's limits each.
var notBodies = []api.Body{
	{}, {Quota: 1}, {Quota: 0, Weights: []int{}}, {Quota: 1, Weights: []int{}}, {Quota: 1, Weights: []int{0}}, {Quota: 0, Weights: []int{0}}, {Quota: 0, Weights: []int{1, 1}},
	{Quota: -1, Weights: []int{1, 1}}, {Quota: 3, Weights: []int{1, 1}}, {Quota: 1, Weights: []int{0, 0, 0}}, {Quota: 1, Weights: []int{2, -1}}, {Quota: 1, Weights: []int{-1, 2}},
	{Quota: 1, Weights: []int{1001}}, {Quota: 5, Weights: []int{5, 5, 1001}}, {Quota: 8001, Weights: slices.Repeat([]int{1000}, 8)},
	{Quota: 1, Weights: slices.Repeat([]int{1}, 9)}, {Quota: 1, Weights: slices.Repeat([]int{0}, 9)}, {Quota: 1, Weights: slices.Repeat([]int{1}, 64)},
	{Quota: math.MinInt, Weights: []int{1}}, {Quota: math.MaxInt, Weights: []int{1}}, {Quota: math.MaxInt, Weights: []int{math.MaxInt}},
	{Quota: 1, Weights: []int{math.MaxInt, math.MaxInt, 3}}, {Quota: 1, Weights: []int{math.MinInt, math.MinInt, 1}}, {Quota: 1, Weights: []int{1, math.MinInt, math.MaxInt}},
}

// notRules are out of one of a rule's limits each.
var notRules = []ruled{
	{0, nil}, {0, []int{1}}, {-1, []int{1}}, {6, []int{1}}, {6, []int{32}}, {8, []int{3, 12}}, {64, []int{1}}, {65, []int{1}}, {math.MinInt, []int{1}}, {math.MaxInt, []int{1}},
	{1, nil}, {3, nil}, {3, []int{}}, {1, []int{0}}, {3, []int{0}}, {3, []int{0, 1}}, {3, []int{-1}}, {3, []int{-1, 1}}, {3, []int{math.MinInt, 1}}, {3, []int{math.MinInt}},
	{1, []int{2}}, {2, []int{4}}, {3, []int{8}}, {3, []int{1, 8}}, {5, []int{32}}, {5, []int{3, 1 << 40}}, {5, []int{math.MaxInt}}, {5, []int{3, math.MaxInt}}, {3, []int{1<<32 + 1}},
	{3, []int{2, 1}}, {3, []int{5, 3}}, {3, []int{3, 3}}, {3, []int{1, 2, 2}}, {3, []int{1, 4, 2}}, {4, []int{12, 3}}, {5, []int{3, 5, 5}},
	{3, []int{1, 3}}, {3, []int{2, 3}}, {3, []int{1, 2, 7}}, {3, []int{3, 7}}, {4, []int{3, 12, 13}}, {4, []int{3, 12, 15}}, {5, []int{3, 5, 24, 28}}, {5, []int{1, 30, 31}}, {5, []int{3, 12, 16, 17}},
	{5, slices.Repeat([]int{1}, 40)}, {2, []int{1, 2, 3}},
}

// isIn reports whether a drover is in a set.
func isIn(d, set int) bool { return set/(1<<d)%2 == 1 }

// slowWins adds the weights of a set's drovers.
func slowWins(b api.Body, set int) bool {
	sum := 0
	for d, w := range b.Weights {
		if isIn(d, set) {
			sum += w
		}
	}
	return sum >= b.Quota
}

// slowIsBody goes by the words of the chapter.
func slowIsBody(b api.Body) bool {
	sum := 0
	for _, w := range b.Weights {
		if w < 0 || w > 1000 {
			return false
		}
		sum += w
	}
	return len(b.Weights) >= 1 && len(b.Weights) <= 8 && b.Quota >= 1 && b.Quota <= sum
}

// contains reports whether each drover of the second set is in the first one.
func contains(set, other int) bool {
	for d := range 8 {
		if isIn(d, other) && !isIn(d, set) {
			return false
		}
	}
	return true
}

// slowIsRule goes by the words of the chapter.
func slowIsRule(r ruled) bool {
	if r.n < 1 || r.n > 5 || len(r.rule) == 0 {
		return false
	}
	for i, set := range r.rule {
		if set < 1 || set > 1<<r.n-1 {
			return false
		}
		for k, other := range r.rule {
			if k < i && other >= set || k != i && contains(set, other) {
				return false
			}
		}
	}
	return true
}

// slowRules reports whether a set contains one of the least winning sets.
func slowRules(rule []int, set int) bool {
	return slices.ContainsFunc(rule, func(l int) bool { return contains(set, l) })
}

// leastOf returns the winning sets, ascending, of which all sets that are left without one drover lose.
func leastOf(n int, wins func(set int) bool) []int {
	var out []int
	for set := range 1 << n {
		least := wins(set)
		for d := range n {
			if isIn(d, set) && wins(set-1<<d) {
				least = false
			}
		}
		if least {
			out = append(out, set)
		}
	}
	return out
}

// slowTurns counts the sets that each drover turns.
func slowTurns(b api.Body) []int {
	out := make([]int, len(b.Weights))
	for d := range out {
		for set := range 1 << len(b.Weights) {
			if !isIn(d, set) && !slowWins(b, set) && slowWins(b, set+1<<d) {
				out[d]++
			}
		}
	}
	return out
}

// allOrders returns all orders of n drovers.
func allOrders(n int) [][]int {
	if n == 0 {
		return [][]int{nil}
	}
	var out [][]int
	for _, order := range allOrders(n - 1) {
		for place := range n {
			out = append(out, slices.Insert(slices.Clone(order), place, n-1))
		}
	}
	return out
}

// slowTurnedOrders counts the orders in which each drover turns the set of those before them.
func slowTurnedOrders(b api.Body) ([]int, int) {
	out := make([]int, len(b.Weights))
	orders := allOrders(len(b.Weights))
	for _, order := range orders {
		sum := 0
		for _, d := range order {
			if sum < b.Quota && sum+b.Weights[d] >= b.Quota {
				out[d]++
			}
			sum += b.Weights[d]
		}
	}
	return out, len(orders)
}

// slowKinds looks at all winning sets.
func slowKinds(b api.Body) (never, always, alone int) {
	n := len(b.Weights)
	for d := range n {
		turns, every := false, true
		for set := range 1 << n {
			if !isIn(d, set) && slowWins(b, set) != slowWins(b, set+1<<d) {
				turns = true
			}
			if slowWins(b, set) && !isIn(d, set) {
				every = false
			}
		}
		if !turns {
			never += 1 << d
		}
		if every {
			always += 1 << d
		}
		if b.Weights[d] >= b.Quota {
			alone += 1 << d
		}
	}
	return never, always, alone
}

// slowIsTrade counts in how many of the sets each drover is.
func slowIsTrade(rule []int, s [4]int) bool {
	for d := range 5 {
		count := 0
		for i, set := range s {
			if isIn(d, set) && i < 2 {
				count++
			}
			if isIn(d, set) && i >= 2 {
				count--
			}
		}
		if count != 0 {
			return false
		}
	}
	return slowRules(rule, s[0]) && slowRules(rule, s[1]) && !slowRules(rule, s[2]) && !slowRules(rule, s[3])
}

// slowTrade looks at all two winning and two losing sets, in lexicographic order.
func slowTrade(r ruled) ([4]int, bool) {
	var winning, losing []int
	for set := range 1 << r.n {
		if slowRules(r.rule, set) {
			winning = append(winning, set)
		} else {
			losing = append(losing, set)
		}
	}
	for i, a := range winning {
		for _, b := range winning[i:] {
			for k, c := range losing {
				for _, d := range losing[k:] {
					if a+b == c+d && slowIsTrade(r.rule, [4]int{a, b, c, d}) {
						return [4]int{a, b, c, d}, true
					}
				}
			}
		}
	}
	return [4]int{}, false
}

// allRules returns all rules of n drovers.
func allRules(n int) []ruled {
	var out []ruled
	var look func(rule []int, from int)
	look = func(rule []int, from int) {
		if len(rule) > 0 {
			out = append(out, ruled{n, slices.Clone(rule)})
		}
		for set := from; set < 1<<n; set++ {
			if !slowRules(rule, set) {
				look(append(rule, set), set+1)
			}
		}
	}
	look(nil, 1)
	return out
}

// winners is a number that tells which sets win.
func winners(n int, wins func(set int) bool) uint32 {
	out := uint32(0)
	for set := range 1 << n {
		if wins(set) {
			out |= 1 << set
		}
	}
	return out
}

// lightLists returns all lists of n light weights, by their sums, and those of one sum in lexicographic order.
func lightLists(n int) [][]int {
	lists := [][]int{nil}
	for range n {
		var longer [][]int
		for _, l := range lists {
			for w := range 10 {
				longer = append(longer, append(slices.Clone(l), w))
			}
		}
		lists = longer
	}
	slices.SortStableFunc(lists, func(a, b []int) int { return sum(a) - sum(b) })
	return lists
}

// lightBodies returns, for each way in which sets can win by light weights of n drovers, the body that comes first.
func lightBodies(n int) map[uint32]api.Body {
	first := map[uint32]api.Body{}
	for _, l := range lightLists(n) {
		sums := make([]int, 1<<n)
		for set := range sums {
			for d, w := range l {
				if isIn(d, set) {
					sums[set] += w
				}
			}
		}
		// The least quota with which a set loses is one more than what the set weighs.
		quotas := slices.Clone(sums)
		slices.Sort(quotas)
		for _, s := range slices.Compact(quotas) {
			if s == sum(l) {
				continue
			}
			key := winners(n, func(set int) bool { return sums[set] > s })
			if _, ok := first[key]; !ok {
				first[key] = api.Body{Quota: s + 1, Weights: l}
			}
		}
	}
	return first
}

// sum adds the numbers of a list.
func sum(list []int) int {
	total := 0
	for _, n := range list {
		total += n
	}
	return total
}

// randomBodies returns bodies of one to eight drovers, with light and heavy weights.
func randomBodies(count int) []api.Body {
	r := rand.New(rand.NewPCG(5, 6))
	var out []api.Body
	for len(out) < count {
		b := api.Body{Quota: 1}
		most := []int{1, 3, 9, 30, 1000}[r.IntN(5)]
		sum := 0
		for range 1 + r.IntN(8) {
			w := r.IntN(most + 1)
			b.Weights = append(b.Weights, w)
			sum += w
		}
		if sum > 0 {
			b.Quota = 1 + r.IntN(sum)
			out = append(out, b)
		}
	}
	return out
}

// smallBodies returns all bodies of up to three drovers with weights of at most 3.
func smallBodies() []api.Body {
	var out []api.Body
	var look func(weights []int)
	look = func(weights []int) {
		for quota := 1; quota <= 9; quota++ {
			if b := (api.Body{Quota: quota, Weights: slices.Clone(weights)}); slowIsBody(b) {
				out = append(out, b)
			}
		}
		if len(weights) < 3 {
			for w := range 4 {
				look(append(weights, w))
			}
		}
	}
	look(nil)
	return out
}

// manyBodies returns all small bodies, those that have a name, and as many random ones as are asked for.
func manyBodies(random int) []api.Body {
	return slices.Concat([]api.Body{ordinary, one, zeros, allMust, eight}, smallBodies(), randomBodies(random))
}
