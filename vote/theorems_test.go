package vote_test

import (
	"slices"
	"testing"

	"droveway/api"
	"droveway/vote"
)

// TestP3_8OneOrTheOther: of each rule there are either weights, by which it wins, or a trade.
func TestP3_8OneOrTheOther(t *testing.T) {
	weighed := []int{0, 1, 4, 18, 148, 3285}
	for n := 1; n <= 5; n++ {
		found := 0
		for _, r := range allRules(n) {
			b, e := vote.Weights(n, r.rule)
			sets, f := vote.Trade(n, r.rule)
			switch {
			case e == api.OK && f == api.ErrPlan:
				found++
				if l, e := vote.Least(b); !slices.Equal(l, r.rule) || e != api.OK {
					t.Error(r, b, l, e)
				}
			case e == api.ErrPlan && f == api.OK:
				if ok, e := vote.IsTrade(n, r.rule, sets); !ok || e != api.OK || sets[0] > sets[1] || sets[2] > sets[3] {
					t.Error(r, sets, ok, e)
				}
			default:
				t.Error(r, b, sets, e, f)
			}
		}
		if found != weighed[n] {
			t.Error(n, found)
		}
	}
}

func TestP3_9Turning(t *testing.T) {
	for _, b := range manyBodies(500) {
		n := len(b.Weights)
		// 8! is a common denominator of all powers.
		total := 0
		power, e := vote.Power(b)
		for _, p := range power {
			if p.Den < 1 || 40320%p.Den != 0 {
				t.Fatal(b, power)
			}
			total += p.Num * (40320 / p.Den)
		}
		if total != 40320 || e != api.OK {
			t.Error(b, power, e)
		}
		all, with := 0, make([]int, n)
		for set := range 1 << n {
			wins, _ := vote.Wins(b, set)
			if !wins {
				continue
			}
			all++
			for d := range n {
				if isIn(d, set) {
					with[d]++
				}
			}
		}
		turns, e := vote.Turns(b)
		if len(turns) != n || e != api.OK {
			t.Fatal(b, turns, e)
		}
		for d := range turns {
			if turns[d] != 2*with[d]-all {
				t.Error(b, d, turns, with, all)
			}
		}
	}
}

func TestP3_10MoreWeight(t *testing.T) {
	for _, b := range manyBodies(500) {
		turns, e := vote.Turns(b)
		power, f := vote.Power(b)
		if len(turns) != len(b.Weights) || len(power) != len(b.Weights) || e != api.OK || f != api.OK {
			t.Fatal(b, turns, power, e, f)
		}
		for d, w := range b.Weights {
			for other, v := range b.Weights {
				if w >= v && (turns[d] < turns[other] || power[d].Num*power[other].Den < power[other].Num*power[d].Den) {
					t.Error(b, d, other, turns, power)
				}
			}
		}
	}
}

func TestP3_11Kinds(t *testing.T) {
	for _, b := range manyBodies(500) {
		never, always, _, _ := vote.Kinds(b)
		turns, _ := vote.Turns(b)
		power, _ := vote.Power(b)
		least, e := vote.Least(b)
		if len(turns) != len(b.Weights) || len(power) != len(b.Weights) || len(least) == 0 || e != api.OK {
			t.Fatal(b, turns, power, least, e)
		}
		for d := range b.Weights {
			in := 0
			for _, set := range least {
				if isIn(d, set) {
					in++
				}
			}
			none := isIn(d, never)
			if none != (turns[d] == 0) || none != (power[d] == api.Ratio{Num: 0, Den: 1}) || none != (in == 0) || isIn(d, always) && in != len(least) {
				t.Error(b, d, never, always, turns, power, least)
			}
		}
	}
}

func TestP3_12Rules(t *testing.T) {
	for _, b := range manyBodies(500) {
		n := len(b.Weights)
		if n > 5 {
			continue
		}
		rule, e := vote.Least(b)
		if e != api.OK || !slowIsRule(ruled{n, rule}) {
			t.Fatal(b, rule, e)
		}
		for set := range 1 << n {
			x, e := vote.Wins(b, set)
			if y, f := vote.Rules(n, rule, set); x != y || e != api.OK || f != api.OK {
				t.Error(b, rule, set, x, y, e, f)
			}
		}
		light, e := vote.Weights(n, rule)
		if same, f := vote.Same(light, b); !same || e != api.OK || f != api.OK {
			t.Error(b, rule, light, e, f)
		}
	}
	for n := 1; n <= 5; n++ {
		for _, r := range allRules(n) {
			other, e := vote.Other(n, r.rule)
			if again, f := vote.Other(n, other); !slices.Equal(again, r.rule) || e != api.OK || f != api.OK {
				t.Error(r, other, again, e, f)
			}
		}
	}
}
