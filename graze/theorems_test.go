package graze_test

import (
	"math/big"
	"math/rand/v2"
	"slices"
	"testing"

	"droveway/api"
	"droveway/graze"
)

func dayOf(t *testing.T, a, b int, state []int) []int {
	t.Helper()
	after, e := graze.Day(a, b, state)
	ok(t, e)
	return after
}

func turned(t *testing.T, a, b int, state []int, plots ...api.Pair) []int {
	t.Helper()
	after, e := graze.Turns(a, b, state, plots)
	ok(t, e)
	return after
}

func swept(t *testing.T, a, b int, state []int) []int {
	t.Helper()
	after, e := graze.Sweep(a, b, state)
	ok(t, e)
	return after
}

func roundOf(t *testing.T, a, b int, state []int) [][]int {
	t.Helper()
	states, e := graze.Round(a, b, state)
	ok(t, e)
	return states
}

func sum(list []int) int {
	total := 0
	for _, x := range list {
		total += x
	}
	return total
}

// TestP8_8Turns turns all plots from the far corner on, those that are as far in several orders.
func TestP8_8Turns(t *testing.T) {
	r := rand.New(rand.NewPCG(57, 58))
	farFirst := func(p, q api.Pair) int { return q.A + q.B - p.A - p.B }
	eachState(func(a, b int, state []int) {
		want := dayOf(t, a, b, state)
		plots := slowPlots(a, b)
		for range 4 {
			slices.SortStableFunc(plots, farFirst)
			if got := turned(t, a, b, state, plots...); !slices.Equal(got, want) {
				t.Fatal(a, b, state, plots, got, want)
			}
			r.Shuffle(len(plots), func(i, j int) { plots[i], plots[j] = plots[j], plots[i] })
		}
		one := state
		slices.SortStableFunc(plots, farFirst)
		for _, plot := range plots {
			var e api.Errno
			one, e = graze.Turn(a, b, one, plot.A, plot.B)
			ok(t, e)
		}
		if !slices.Equal(one, want) {
			t.Fatal(a, b, state, one, want)
		}
	})
}

func TestP8_9BrouwerAndSchrijver(t *testing.T) {
	eachState(func(a, b int, state []int) {
		for times := -3; times <= 3; times++ {
			if got, e := graze.Days(a, b, state, times*(a+b)); e != api.OK || !slices.Equal(got, state) {
				t.Fatal(a, b, state, got, e)
			}
		}
		after := state
		for range a + b {
			after = dayOf(t, a, b, after)
		}
		if !slices.Equal(after, state) {
			t.Fatal(a, b, state, after)
		}
		if round := roundOf(t, a, b, state); len(round) == 0 || (a+b)%len(round) != 0 {
			t.Fatal(a, b, state, round)
		}
	})
}

func TestP8_10ProppAndRoby(t *testing.T) {
	eachState(func(a, b int, state []int) {
		round := roundOf(t, a, b, state)
		grazed, ends := 0, 0
		for _, each := range round {
			grazed += sum(each)
			list, _, e := graze.Ends(a, b, each)
			ok(t, e)
			ends += len(list)
		}
		if 2*grazed != a*b*len(round) || (a+b)*ends != a*b*len(round) {
			t.Fatal(a, b, round, grazed, ends)
		}
	})
}

func TestP8_11Sweeps(t *testing.T) {
	eachState(func(a, b int, state []int) {
		before, e := graze.Word(a, b, state)
		ok(t, e)
		after, e := graze.Word(a, b, swept(t, a, b, state))
		ok(t, e)
		if after != before[1:]+before[:1] {
			t.Fatal(a, b, state, before, after)
		}
		again := state
		for range a + b {
			again = swept(t, a, b, again)
		}
		if !slices.Equal(again, state) {
			t.Fatal(a, b, state, again)
		}
	})
}

// sameStates goes by the words of the chapter.
func sameStates(a, b, days int) int {
	common := new(big.Int).GCD(nil, nil, new(big.Int).Abs(big.NewInt(int64(days))), big.NewInt(int64(a+b)))
	g := common.Int64()
	if int64(a)*g%int64(a+b) != 0 {
		return 0
	}
	return int(new(big.Int).Binomial(g, int64(a)*g/int64(a+b)).Int64())
}

func TestP8_12Same(t *testing.T) {
	r := rand.New(rand.NewPCG(59, 60))
	eachSize(func(a, b int) {
		numbers := append([]int{r.Int(), -r.Int()}, wild...)
		for n := -40; n <= 40; n++ {
			numbers = append(numbers, n, n*(a+b))
		}
		for _, n := range numbers {
			if got, e := graze.Same(a, b, n); e != api.OK || got != sameStates(a, b, n) {
				t.Error(a, b, n, got, sameStates(a, b, n), e)
			}
		}
	})
}

func TestP8_12Sweeps(t *testing.T) {
	eachSize(func(a, b int) {
		same := make([]int, 2*(a+b))
		for _, state := range slowStates(a, b) {
			after := state
			for times := range same {
				if slices.Equal(after, state) {
					same[times]++
				}
				after = swept(t, a, b, after)
			}
		}
		for times, want := range same {
			if got, e := graze.Same(a, b, times); e != api.OK || got != want {
				t.Error(a, b, times, got, want, e)
			}
		}
	})
}

// TestP8_13Turned turns each plot twice, and each two plots of all states of small pastures in both orders.
func TestP8_13Turned(t *testing.T) {
	eachState(func(a, b int, state []int) {
		for _, p := range slowPlots(a, b) {
			if got := turned(t, a, b, state, p, p); !slices.Equal(got, state) {
				t.Fatal(a, b, state, p, got)
			}
			if a*b > 20 {
				continue
			}
			for _, q := range slowPlots(a, b) {
				if slices.Contains(beyond(p), q) || slices.Contains(beyond(q), p) {
					continue
				}
				one, other := turned(t, a, b, state, p, q), turned(t, a, b, state, q, p)
				if !slices.Equal(one, other) {
					t.Fatal(a, b, state, p, q, one, other)
				}
			}
		}
	})
}
