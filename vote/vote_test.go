package vote_test

import (
	"math"
	"math/rand/v2"
	"slices"
	"testing"

	"droveway/api"
	"droveway/vote"
)

// wild are numbers that are in range, just out of it, and far away.
var wild = []int{math.MinInt, math.MinInt + 1, -1 << 62, -1 << 32, -3, -1, 0, 1, 2, 3, 4, 5, 6, 7, 12, 31, 32, 1000, 1001, 1<<32 + 1, 1 << 62, math.MaxInt - 1, math.MaxInt}

// bodyErrors calls all functions that ask for a body, and returns their errors; with an error, nothing else may be returned.
func bodyErrors(t *testing.T, b api.Body, set int) []api.Errno {
	t.Helper()
	wins, e1 := vote.Wins(b, set)
	least, e2 := vote.Least(b)
	turns, e3 := vote.Turns(b)
	power, e4 := vote.Power(b)
	k1, k2, k3, e5 := vote.Kinds(b)
	s1, e6 := vote.Same(b, ordinary)
	s2, e7 := vote.Same(ordinary, b)
	s3, e8 := vote.Same(b, b)
	if e1 != api.OK && wins || e2 != api.OK && len(least) != 0 || e3 != api.OK && len(turns) != 0 || e4 != api.OK && len(power) != 0 ||
		e5 != api.OK && (k1 != 0 || k2 != 0 || k3 != 0) || e6 != api.OK && s1 || e7 != api.OK && s2 || e8 != api.OK && s3 {
		t.Error("results with an error", b, set)
	}
	return []api.Errno{e2, e3, e4, e5, e6, e7, e8, e1}
}

// ruleErrors does so with all functions that ask for a rule.
func ruleErrors(t *testing.T, r ruled, sets [4]int) []api.Errno {
	t.Helper()
	wins, e1 := vote.Rules(r.n, r.rule, sets[0])
	body, e2 := vote.Weights(r.n, r.rule)
	trade, e3 := vote.Trade(r.n, r.rule)
	ok, e4 := vote.IsTrade(r.n, r.rule, sets)
	other, e5 := vote.Other(r.n, r.rule)
	if e1 != api.OK && wins || e2 != api.OK && (body.Quota != 0 || len(body.Weights) != 0) || e3 != api.OK && trade != [4]int{} || e4 != api.OK && ok || e5 != api.OK && len(other) != 0 {
		t.Error("results with an error", r, sets)
	}
	return []api.Errno{e2, e3, e5, e1, e4}
}

func TestNotBodies(t *testing.T) {
	for _, b := range notBodies {
		for _, set := range []int{0, 1, -1, 1 << 9} {
			for f, e := range bodyErrors(t, b, set) {
				if e != api.ErrArg {
					t.Error(b, "function", f, e)
				}
			}
		}
	}
}

// TestBodies are at the limits.
func TestBodies(t *testing.T) {
	for _, b := range []api.Body{
		one, ordinary, zeros, allMust, eight, {Quota: 1, Weights: []int{1000}}, {Quota: 1000, Weights: []int{1000}}, {Quota: 1, Weights: []int{0, 0, 0, 0, 0, 0, 0, 1}},
		{Quota: 1, Weights: slices.Repeat([]int{1000}, 8)}, {Quota: 2, Weights: []int{1, 1}},
	} {
		for f, e := range bodyErrors(t, b, 0) {
			if e != api.OK {
				t.Error(b, "function", f, e)
			}
		}
	}
}

func TestNotRules(t *testing.T) {
	for _, r := range notRules {
		for _, sets := range [][4]int{{}, {1, 1, 1, 1}, {-1, 0, 0, 0}, {32, 1, 2, 3}} {
			for f, e := range ruleErrors(t, r, sets) {
				if e != api.ErrArg {
					t.Error(r, "function", f, e)
				}
			}
		}
	}
}

// TestNotRulesAll looks at all lists of up to three small numbers.
func TestNotRulesAll(t *testing.T) {
	var look func(n int, list []int)
	look = func(n int, list []int) {
		_, e := vote.Other(n, list)
		if r := (ruled{n, list}); (e == api.OK) != slowIsRule(r) || e != api.OK && e != api.ErrArg {
			t.Fatal(r, e)
		}
		if len(list) == 3 {
			return
		}
		for set := -1; set <= 1<<n; set++ {
			look(n, append(slices.Clone(list), set))
		}
	}
	for n := 1; n <= 5; n++ {
		look(n, nil)
	}
}

// TestP1Any calls the functions with any numbers: none of them panics, and what is out of range is refused.
func TestP1Any(t *testing.T) {
	r := rand.New(rand.NewPCG(7, 8))
	any := func() int { return wild[r.IntN(len(wild))] }
	for range 20000 {
		b := api.Body{Quota: any()}
		for range r.IntN(4) {
			b.Weights = append(b.Weights, any())
		}
		if errs := bodyErrors(t, b, any()); (errs[0] == api.OK) != slowIsBody(b) {
			t.Error(b, errs)
		}
		rule := ruled{n: any()}
		for range r.IntN(4) {
			rule.rule = append(rule.rule, any())
		}
		if errs := ruleErrors(t, rule, [4]int{any(), any(), any(), any()}); (errs[0] == api.ErrArg) != !slowIsRule(rule) {
			t.Error(rule, errs)
		}
		bodyErrors(t, ordinary, any())
		ruleErrors(t, ruled{3, []int{3, 5}}, [4]int{any(), any(), any(), any()})
	}
}

// spare returns the list with room behind it, and the whole of its memory.
func spare(list []int) ([]int, []int) {
	whole := make([]int, len(list)+4)
	copy(whole, list)
	return whole[:len(list)], whole
}

// twice calls a function two times, and changes what the first call returned: nothing is kept or shared.
func twice[E comparable](t *testing.T, f func() ([]E, api.Errno)) {
	t.Helper()
	first, e := f()
	kept := slices.Clone(first)
	clear(first[:cap(first)])
	if second, g := f(); !slices.Equal(second, kept) || e != g {
		t.Error(kept, second, e, g)
	}
}

func TestP2SameBodies(t *testing.T) {
	for _, b := range manyBodies(200) {
		list, whole := spare(b.Weights)
		before := slices.Clone(whole)
		c := api.Body{Quota: b.Quota, Weights: list}
		twice(t, func() ([]int, api.Errno) { return vote.Least(c) })
		twice(t, func() ([]int, api.Errno) { return vote.Turns(c) })
		twice(t, func() ([]api.Ratio, api.Errno) { return vote.Power(c) })
		vote.Wins(c, 1)
		vote.Kinds(c)
		if same, e := vote.Same(c, b); !same || e != api.OK || !slices.Equal(whole, before) {
			t.Error("changed:", before, whole)
		}
	}
}

func TestP2SameRules(t *testing.T) {
	for i, r := range slices.Concat(allRules(1), allRules(2), allRules(3), allRules(4), allRules(5)) {
		if r.n == 5 && i%50 != 0 {
			continue
		}
		list, whole := spare(r.rule)
		before := slices.Clone(whole)
		twice(t, func() ([]int, api.Errno) { return vote.Other(r.n, list) })
		twice(t, func() ([]int, api.Errno) {
			b, e := vote.Weights(r.n, list)
			return b.Weights, e
		})
		vote.Rules(r.n, list, 1)
		vote.IsTrade(r.n, list, [4]int{1, 1, 0, 0})
		first, e := vote.Trade(r.n, list)
		if second, f := vote.Trade(r.n, list); first != second || e != f || !slices.Equal(whole, before) {
			t.Error("changed:", before, whole)
		}
	}
}

func TestP3_1Wins(t *testing.T) {
	for set, want := range []bool{false, false, false, true, false, true, false, true} {
		if wins, e := vote.Wins(ordinary, set); wins != want || e != api.OK {
			t.Error(set, wins, e)
		}
	}
	for _, b := range manyBodies(300) {
		all := 1<<len(b.Weights) - 1
		for set := range all + 1 {
			if wins, e := vote.Wins(b, set); wins != slowWins(b, set) || e != api.OK {
				t.Error(b, set, wins, e)
			}
		}
		for _, set := range []int{-1, all + 1, all + 2, 2*all + 1, math.MinInt, math.MaxInt, 1<<32 + 1} {
			if wins, e := vote.Wins(b, set); wins || e != api.ErrArg {
				t.Error(b, set, wins, e)
			}
		}
	}
}

func TestP3_1Least(t *testing.T) {
	for _, c := range []struct {
		b    api.Body
		want []int
	}{
		{ordinary, []int{3, 5}}, {one, []int{1}}, {zeros, []int{2}}, {allMust, []int{255}}, {api.Body{Quota: 3, Weights: []int{0, 2, 0, 1}}, []int{10}},
		{api.Body{Quota: 1, Weights: []int{1, 1, 1}}, []int{1, 2, 4}}, {api.Body{Quota: 2, Weights: []int{1, 1, 1}}, []int{3, 5, 6}},
		{api.Body{Quota: 4, Weights: []int{4, 2, 2, 3}}, []int{1, 6, 10, 12}}, {api.Body{Quota: 5, Weights: []int{4, 2, 2, 3}}, []int{3, 5, 9, 10, 12}},
	} {
		if l, e := vote.Least(c.b); !slices.Equal(l, c.want) || e != api.OK {
			t.Error(c, l, e)
		}
	}
	for _, b := range manyBodies(500) {
		want := leastOf(len(b.Weights), func(set int) bool { return slowWins(b, set) })
		if l, e := vote.Least(b); !slices.Equal(l, want) || e != api.OK {
			t.Error(b, l, want, e)
		}
	}
}

func TestP3_2Turns(t *testing.T) {
	for _, c := range []struct {
		b    api.Body
		want []int
	}{
		{ordinary, []int{3, 1, 1}}, {one, []int{1}}, {zeros, []int{0, 8, 0, 0}}, {allMust, slices.Repeat([]int{1}, 8)},
		{api.Body{Quota: 2, Weights: []int{1, 1, 1}}, []int{2, 2, 2}}, {api.Body{Quota: 1, Weights: slices.Repeat([]int{1000}, 8)}, slices.Repeat([]int{1}, 8)},
		{api.Body{Quota: 5, Weights: slices.Repeat([]int{1}, 8)}, slices.Repeat([]int{35}, 8)},
	} {
		if l, e := vote.Turns(c.b); !slices.Equal(l, c.want) || e != api.OK {
			t.Error(c, l, e)
		}
	}
	for _, b := range manyBodies(300) {
		if l, e := vote.Turns(b); !slices.Equal(l, slowTurns(b)) || e != api.OK {
			t.Error(b, l, e)
		}
	}
}

func TestP3_2Power(t *testing.T) {
	for _, c := range []struct {
		b    api.Body
		want []api.Ratio
	}{
		{ordinary, []api.Ratio{{Num: 2, Den: 3}, {Num: 1, Den: 6}, {Num: 1, Den: 6}}},
		{one, []api.Ratio{{Num: 1, Den: 1}}},
		{zeros, []api.Ratio{{Num: 0, Den: 1}, {Num: 1, Den: 1}, {Num: 0, Den: 1}, {Num: 0, Den: 1}}},
		{allMust, slices.Repeat([]api.Ratio{{Num: 1, Den: 8}}, 8)},
		{api.Body{Quota: 1, Weights: slices.Repeat([]int{1}, 8)}, slices.Repeat([]api.Ratio{{Num: 1, Den: 8}}, 8)},
		{api.Body{Quota: 51, Weights: []int{50, 49, 1}}, []api.Ratio{{Num: 2, Den: 3}, {Num: 1, Den: 6}, {Num: 1, Den: 6}}},
		{api.Body{Quota: 3, Weights: []int{2, 1, 1, 1}}, []api.Ratio{{Num: 1, Den: 2}, {Num: 1, Den: 6}, {Num: 1, Den: 6}, {Num: 1, Den: 6}}},
		{api.Body{Quota: 5, Weights: []int{3, 2, 1, 1, 0}}, []api.Ratio{{Num: 7, Den: 12}, {Num: 1, Den: 4}, {Num: 1, Den: 12}, {Num: 1, Den: 12}, {Num: 0, Den: 1}}},
	} {
		if l, e := vote.Power(c.b); !slices.Equal(l, c.want) || e != api.OK {
			t.Error(c, l, e)
		}
	}
	for i, b := range manyBodies(300) {
		if len(b.Weights) == 8 && i%5 != 0 {
			continue
		}
		power, e := vote.Power(b)
		orders, all := slowTurnedOrders(b)
		if len(power) != len(orders) || e != api.OK {
			t.Fatal(b, power, e)
		}
		for d, p := range power {
			if p.Num*all != orders[d]*p.Den || !isLowest(p) {
				t.Error(b, d, p, orders[d], all)
			}
		}
	}
}

// isLowest reports whether no number above 1 divides both numbers of a ratio, and the lower one is above 0.
func isLowest(p api.Ratio) bool {
	if p.Num == 0 {
		return p.Den == 1
	}
	for f := 2; f <= p.Num; f++ {
		if p.Num%f == 0 && p.Den%f == 0 {
			return false
		}
	}
	return p.Num > 0 && p.Den > 0
}

func TestP3_3Kinds(t *testing.T) {
	for _, c := range []struct {
		b                    api.Body
		never, always, alone int
	}{
		{ordinary, 0, 1, 0}, {one, 0, 1, 1}, {zeros, 13, 2, 2}, {allMust, 0, 255, 0}, {api.Body{Quota: 2, Weights: []int{1, 1, 1}}, 0, 0, 0},
		{api.Body{Quota: 1, Weights: []int{1, 1, 0}}, 4, 0, 3}, {api.Body{Quota: 3, Weights: []int{0, 2, 0, 1}}, 5, 10, 0}, {api.Body{Quota: 3, Weights: []int{3, 1, 1}}, 6, 1, 1},
		{api.Body{Quota: 4, Weights: []int{4, 1, 3, 5, 0, 0, 0, 0}}, 240, 0, 9}, {api.Body{Quota: 12, Weights: []int{4, 1, 3, 5, 0, 0, 0, 0}}, 242, 13, 0},
	} {
		if never, always, alone, e := vote.Kinds(c.b); never != c.never || always != c.always || alone != c.alone || e != api.OK {
			t.Error(c, never, always, alone, e)
		}
	}
	for _, b := range manyBodies(500) {
		n1, a1, w1 := slowKinds(b)
		if n2, a2, w2, e := vote.Kinds(b); n1 != n2 || a1 != a2 || w1 != w2 || e != api.OK {
			t.Error(b, n2, a2, w2, e)
		}
	}
}

func TestP3_4Same(t *testing.T) {
	for _, c := range []struct {
		a, b api.Body
		want bool
	}{
		{ordinary, ordinary, true}, {ordinary, api.Body{Quota: 51, Weights: []int{50, 49, 1}}, true}, {ordinary, api.Body{Quota: 2, Weights: []int{2, 1, 1}}, false},
		{ordinary, api.Body{Quota: 3, Weights: []int{1, 2, 1}}, false}, {ordinary, api.Body{Quota: 3, Weights: []int{2, 1, 1, 0}}, false}, {api.Body{Quota: 3, Weights: []int{2, 1, 1, 0}}, ordinary, false},
		{one, api.Body{Quota: 1000, Weights: []int{1000}}, true}, {one, api.Body{Quota: 1, Weights: []int{1, 0}}, false},
		{api.Body{Quota: 4, Weights: []int{2, 2, 1}}, api.Body{Quota: 2, Weights: []int{1, 1, 0}}, true}, {api.Body{Quota: 5, Weights: []int{2, 2, 1}}, api.Body{Quota: 4, Weights: []int{2, 2, 1}}, false},
	} {
		if same, e := vote.Same(c.a, c.b); same != c.want || e != api.OK {
			t.Error(c, same, e)
		}
	}
	bodies := append(smallBodies(), randomBodies(60)...)
	for i, a := range bodies {
		for _, b := range bodies[i:] {
			want := len(a.Weights) == len(b.Weights)
			for set := range 1 << len(a.Weights) {
				want = want && slowWins(a, set) == slowWins(b, set)
			}
			x, e := vote.Same(a, b)
			y, f := vote.Same(b, a)
			if x != want || y != want || e != api.OK || f != api.OK {
				t.Error(a, b, x, y, e, f)
			}
		}
	}
}

func TestP3_5Rules(t *testing.T) {
	for set, want := range []bool{false, false, false, true, false, false, false, true, false, false, false, true, true, true, true, true} {
		if wins, e := vote.Rules(4, []int{3, 12}, set); wins != want || e != api.OK {
			t.Error(set, wins, e)
		}
	}
	for n := 1; n <= 5; n++ {
		for i, r := range allRules(n) {
			if n == 5 && i%10 != 0 {
				continue
			}
			for set := range 1 << n {
				if wins, e := vote.Rules(n, r.rule, set); wins != slowRules(r.rule, set) || e != api.OK {
					t.Error(r, set, wins, e)
				}
			}
			for _, set := range []int{-1, 1 << n, 1<<n + 1, 1<<32 + 1, math.MinInt, math.MaxInt} {
				if wins, e := vote.Rules(n, r.rule, set); wins || e != api.ErrArg {
					t.Error(r, set, wins, e)
				}
			}
		}
	}
}

func TestP3_5Other(t *testing.T) {
	for _, c := range []struct {
		ruled
		want []int
	}{
		{ruled{1, []int{1}}, []int{1}}, {ruled{3, []int{3, 5}}, []int{1, 6}}, {ruled{3, []int{1, 6}}, []int{3, 5}}, {ruled{3, []int{3, 5, 6}}, []int{3, 5, 6}}, {ruled{3, []int{7}}, []int{1, 2, 4}},
		{ruled{3, []int{2}}, []int{2}}, {ruled{4, []int{3, 12}}, []int{5, 6, 9, 10}}, {ruled{5, []int{1, 2, 4, 8, 16}}, []int{31}}, {ruled{5, []int{16}}, []int{16}},
	} {
		if l, e := vote.Other(c.n, c.rule); !slices.Equal(l, c.want) || e != api.OK {
			t.Error(c, l, e)
		}
	}
	for n := 1; n <= 5; n++ {
		for _, r := range allRules(n) {
			want := leastOf(n, func(set int) bool { return !slowRules(r.rule, 1<<n-1-set) })
			if l, e := vote.Other(n, r.rule); !slices.Equal(l, want) || e != api.OK {
				t.Error(r, l, want, e)
			}
		}
	}
}

func TestP3_6Weights(t *testing.T) {
	for _, c := range []struct {
		ruled
		want api.Body
		err  api.Errno
	}{
		{ruled{1, []int{1}}, one, api.OK}, {ruled{3, []int{3, 5}}, ordinary, api.OK}, {ruled{3, []int{4}}, api.Body{Quota: 1, Weights: []int{0, 0, 1}}, api.OK},
		{ruled{3, []int{1, 6}}, api.Body{Quota: 2, Weights: []int{2, 1, 1}}, api.OK}, {ruled{5, []int{31}}, api.Body{Quota: 5, Weights: []int{1, 1, 1, 1, 1}}, api.OK},
		{ruled{5, []int{17, 18, 20, 24}}, api.Body{Quota: 5, Weights: []int{1, 1, 1, 1, 4}}, api.OK}, {ruled{5, []int{15, 16}}, api.Body{Quota: 4, Weights: []int{1, 1, 1, 1, 4}}, api.OK},
		{ruled{4, []int{3, 12}}, api.Body{}, api.ErrPlan}, {ruled{5, []int{3, 12}}, api.Body{}, api.ErrPlan}, {ruled{4, []int{5, 6, 9, 10}}, api.Body{}, api.ErrPlan},
	} {
		if b, e := vote.Weights(c.n, c.rule); b.Quota != c.want.Quota || !slices.Equal(b.Weights, c.want.Weights) || e != c.err {
			t.Error(c, b, e)
		}
	}
}

// TestP3_6WeightsAll holds all rules against all light weights.
func TestP3_6WeightsAll(t *testing.T) {
	for n := 1; n <= 5; n++ {
		light := lightBodies(n)
		for _, r := range allRules(n) {
			want, ok := light[winners(n, func(set int) bool { return slowRules(r.rule, set) })]
			b, e := vote.Weights(n, r.rule)
			if b.Quota != want.Quota || !slices.Equal(b.Weights, want.Weights) || ok && e != api.OK || !ok && e != api.ErrPlan {
				t.Error(r, b, want, e)
			}
		}
	}
}

func TestP3_7Trade(t *testing.T) {
	for _, c := range []struct {
		ruled
		want [4]int
		err  api.Errno
	}{
		{ruled{4, []int{3, 12}}, [4]int{3, 12, 5, 10}, api.OK}, {ruled{4, []int{5, 6, 9, 10}}, [4]int{5, 10, 3, 12}, api.OK}, {ruled{5, []int{3, 12}}, [4]int{3, 12, 5, 10}, api.OK},
		{ruled{3, []int{3, 5}}, [4]int{}, api.ErrPlan}, {ruled{1, []int{1}}, [4]int{}, api.ErrPlan}, {ruled{5, []int{31}}, [4]int{}, api.ErrPlan},
	} {
		if sets, e := vote.Trade(c.n, c.rule); sets != c.want || e != c.err {
			t.Error(c, sets, e)
		}
	}
}

// TestP3_7TradeAll looks at all rules.
func TestP3_7TradeAll(t *testing.T) {
	for n := 1; n <= 5; n++ {
		for i, r := range allRules(n) {
			if n == 5 && i%3 != 0 {
				continue
			}
			want, ok := slowTrade(r)
			if sets, e := vote.Trade(n, r.rule); sets != want || ok && e != api.OK || !ok && e != api.ErrPlan {
				t.Error(r, sets, want, e)
			}
		}
	}
}

func TestP3_7IsTrade(t *testing.T) {
	two := ruled{4, []int{3, 12}}
	for _, c := range []struct {
		ruled
		sets [4]int
		want bool
		err  api.Errno
	}{
		{two, [4]int{3, 12, 5, 10}, true, api.OK}, {two, [4]int{12, 3, 5, 10}, true, api.OK}, {two, [4]int{3, 12, 10, 5}, true, api.OK}, {two, [4]int{12, 3, 9, 6}, true, api.OK},
		{two, [4]int{5, 10, 3, 12}, false, api.OK}, {two, [4]int{3, 12, 3, 12}, false, api.OK}, {two, [4]int{3, 12, 5, 9}, false, api.OK}, {two, [4]int{3, 12, 1, 14}, false, api.OK},
		{two, [4]int{3, 12, 0, 0}, false, api.OK}, {two, [4]int{}, false, api.OK}, {two, [4]int{15, 15, 5, 10}, false, api.OK}, {two, [4]int{5, 12, 5, 12}, false, api.OK},
		{two, [4]int{16, 12, 5, 10}, false, api.ErrArg}, {two, [4]int{3, 16, 5, 10}, false, api.ErrArg}, {two, [4]int{3, 12, 16, 10}, false, api.ErrArg}, {two, [4]int{3, 12, 5, 16}, false, api.ErrArg},
		{two, [4]int{-1, 12, 5, 10}, false, api.ErrArg}, {two, [4]int{3, -1, 5, 10}, false, api.ErrArg}, {two, [4]int{3, 12, -1, 10}, false, api.ErrArg}, {two, [4]int{3, 12, 5, -1}, false, api.ErrArg},
		{two, [4]int{3, 12, 5, math.MaxInt}, false, api.ErrArg}, {two, [4]int{math.MinInt, 12, 5, 10}, false, api.ErrArg},
	} {
		if ok, e := vote.IsTrade(c.n, c.rule, c.sets); ok != c.want || e != c.err {
			t.Error(c, ok, e)
		}
	}
	for n := 1; n <= 3; n++ {
		for _, r := range allRules(n) {
			isTradeAll(t, r, 1<<n, 1)
		}
	}
	for i, r := range allRules(4) {
		if i%15 == 0 {
			isTradeAll(t, r, 16, 1)
		}
	}
	for i, r := range allRules(5) {
		if i%500 == 0 {
			isTradeAll(t, r, 32, 3)
		}
	}
}

// isTradeAll looks at all four sets whose numbers are the step apart.
func isTradeAll(t *testing.T, r ruled, sets, step int) {
	t.Helper()
	for a := 0; a < sets; a++ {
		for b := 0; b < sets; b += step {
			for c := 0; c < sets; c += step {
				for d := 0; d < sets; d++ {
					s := [4]int{a, b, c, d}
					if ok, e := vote.IsTrade(r.n, r.rule, s); ok != slowIsTrade(r.rule, s) || e != api.OK {
						t.Fatal(r, s, ok, e)
					}
				}
			}
		}
	}
}
