package graze_test

import (
	"math/rand/v2"
	"reflect"
	"slices"
	"testing"

	"droveway/api"
	"droveway/graze"
)

// ok fails the test if there is an error.
func ok(t *testing.T, e api.Errno) {
	t.Helper()
	if e != api.OK {
		t.Fatal(e)
	}
}

func TestExamples(t *testing.T) {
	for _, c := range []struct {
		a, b      int
		from, day []int
	}{
		{1, 2, []int{0}, []int{1}}, {1, 2, []int{1}, []int{2}}, {1, 2, []int{2}, []int{0}},
		{2, 2, []int{0, 0}, []int{1, 0}}, {2, 2, []int{1, 0}, []int{2, 1}}, {2, 2, []int{2, 1}, []int{2, 2}}, {2, 2, []int{2, 2}, []int{0, 0}},
		{2, 2, []int{1, 1}, []int{2, 0}}, {2, 2, []int{2, 0}, []int{1, 1}},
		{3, 4, []int{0, 0, 0}, []int{1, 0, 0}}, {3, 4, []int{1, 0, 0}, []int{2, 1, 0}}, {3, 4, []int{2, 1, 0}, []int{3, 2, 1}}, {3, 4, []int{4, 4, 4}, []int{0, 0, 0}},
		{1, 1, []int{0}, []int{1}}, {1, 1, []int{1}, []int{0}}, {6, 6, []int{6, 6, 6, 6, 6, 0}, []int{1, 1, 1, 1, 1, 1}},
	} {
		if got, e := graze.Day(c.a, c.b, c.from); e != api.OK || !slices.Equal(got, c.day) {
			t.Error(c, got, e)
		}
		if got, e := graze.Back(c.a, c.b, c.day); e != api.OK || !slices.Equal(got, c.from) {
			t.Error(c, got, e)
		}
	}
	if got, e := graze.Round(2, 2, []int{1, 1}); e != api.OK || !reflect.DeepEqual(got, [][]int{{1, 1}, {2, 0}}) {
		t.Error(got, e)
	}
	if got, e := graze.Round(2, 2, []int{2, 1}); e != api.OK || !reflect.DeepEqual(got, [][]int{{2, 1}, {2, 2}, {0, 0}, {1, 0}}) {
		t.Error(got, e)
	}
	if got, e := graze.Word(2, 2, []int{1, 0}); e != api.OK || got != "urur" {
		t.Error(got, e)
	}
	if got, e := graze.Sweep(2, 2, []int{1, 0}); e != api.OK || !slices.Equal(got, []int{2, 1}) {
		t.Error(got, e)
	}
	if got, e := graze.Word(2, 2, []int{2, 1}); e != api.OK || got != "ruru" {
		t.Error(got, e)
	}
	if got, e := graze.Word(3, 4, []int{2, 1, 0}); e != api.OK || got != "urururr" {
		t.Error(got, e)
	}
	if got, e := graze.Of(3, 4, "urururr"); e != api.OK || !slices.Equal(got, []int{2, 1, 0}) {
		t.Error(got, e)
	}
	if got, e := graze.Turn(3, 4, []int{2, 1, 0}, 0, 2); e != api.OK || !slices.Equal(got, []int{3, 1, 0}) {
		t.Error(got, e)
	}
	ends, next, e := graze.Ends(3, 4, []int{3, 1, 1})
	if e != api.OK || !slices.Equal(ends, []api.Pair{{A: 0, B: 2}, {A: 2, B: 0}}) || !slices.Equal(next, []api.Pair{{A: 0, B: 3}, {A: 1, B: 1}}) {
		t.Error(ends, next, e)
	}
	for _, c := range [][4]int{{2, 2, 0, 6}, {2, 2, 1, 0}, {2, 2, 2, 2}, {2, 2, -2, 2}, {2, 2, 4, 6}, {1, 1, 1, 0}, {1, 1, 2, 2}, {3, 4, 6, 0}, {3, 4, 7, 35}, {6, 6, 0, 924}, {6, 6, 6, 20}, {6, 6, 4, 6}, {6, 6, -3, 0}, {6, 6, 10, 2}} {
		if got, e := graze.Same(c[0], c[1], c[2]); e != api.OK || got != c[3] {
			t.Error(c, got, e)
		}
	}
}

func TestP8_1Ends(t *testing.T) {
	eachState(func(a, b int, state []int) {
		wantEnds, wantNext := slowEnds(a, b, state), slowNext(a, b, state)
		ends, next, e := graze.Ends(a, b, state)
		if e != api.OK || !slices.Equal(ends, wantEnds) || !slices.Equal(next, wantNext) {
			t.Fatal(a, b, state, ends, next, e)
		}
	})
}

func TestP8_2DayBack(t *testing.T) {
	eachState(func(a, b int, state []int) {
		want := slowDay(a, b, state)
		if got, e := graze.Day(a, b, state); e != api.OK || !slices.Equal(got, want) {
			t.Fatal(a, b, state, got, want, e)
		}
		if got, e := graze.Back(a, b, want); e != api.OK || !slices.Equal(got, state) {
			t.Fatal(a, b, want, got, state, e)
		}
	})
}

// TestP8_2JustOne looks for all states of which a state is the next day.
func TestP8_2JustOne(t *testing.T) {
	for a := 1; a <= 4; a++ {
		for b := 1; b <= 4; b++ {
			for _, state := range slowStates(a, b) {
				before := slowBefore(a, b, state)
				if got, e := graze.Back(a, b, state); e != api.OK || len(before) != 1 || !slices.Equal(got, before[0]) {
					t.Fatal(a, b, state, got, before, e)
				}
			}
		}
	}
}

// TestP8_3Turn turns all plots of all states.
func TestP8_3Turn(t *testing.T) {
	eachState(func(a, b int, state []int) {
		for _, plot := range slowPlots(a, b) {
			want := slowTurn(a, b, state, plot)
			if got, e := graze.Turn(a, b, state, plot.A, plot.B); e != api.OK || !slices.Equal(got, want) {
				t.Fatal(a, b, state, plot, got, want, e)
			}
		}
	})
}

func TestP8_3Turns(t *testing.T) {
	r := rand.New(rand.NewPCG(53, 54))
	eachState(func(a, b int, state []int) {
		if got, e := graze.Turns(a, b, state, nil); e != api.OK || !slices.Equal(got, state) {
			t.Fatal(a, b, state, got, e)
		}
		for _, length := range []int{1, 2, 3, 12, 200} {
			if length == 200 && r.IntN(20) > 0 {
				continue
			}
			plots := randomPlots(r, a, b, length)
			want := slowTurns(a, b, state, plots)
			if got, e := graze.Turns(a, b, state, plots); e != api.OK || !slices.Equal(got, want) {
				t.Fatal(a, b, state, plots, got, want, e)
			}
		}
	})
}

// TestP8_3Order turns two plots in both orders, which are not the same where one lies beyond the other one.
func TestP8_3Order(t *testing.T) {
	for _, c := range []struct {
		plots []api.Pair
		want  []int
	}{
		{[]api.Pair{{A: 0, B: 0}, {A: 0, B: 1}}, []int{2, 0}},
		{[]api.Pair{{A: 0, B: 1}, {A: 0, B: 0}}, []int{1, 0}},
		{[]api.Pair{{A: 0, B: 0}, {A: 1, B: 0}}, []int{1, 1}},
		{[]api.Pair{{A: 1, B: 0}, {A: 0, B: 0}}, []int{1, 0}},
		{[]api.Pair{{A: 0, B: 0}, {A: 0, B: 0}}, []int{0, 0}},
	} {
		if got, e := graze.Turns(2, 2, []int{0, 0}, c.plots); e != api.OK || !slices.Equal(got, c.want) {
			t.Error(c, got, e)
		}
	}
}

// TestP8_4Days goes through some days after and before each state, and to some that are far away.
func TestP8_4Days(t *testing.T) {
	r := rand.New(rand.NewPCG(55, 56))
	eachState(func(a, b int, state []int) {
		round := slowRound(a, b, state)
		numbers := append([]int{r.Int(), -r.Int(), r.IntN(1000), -r.IntN(1000)}, wild...)
		for n := -14; n <= 14; n++ {
			numbers = append(numbers, n)
		}
		for _, n := range numbers {
			if got, e := graze.Days(a, b, state, n); e != api.OK || !slices.Equal(got, slowDays(round, n)) {
				t.Fatal(a, b, state, n, got, round, e)
			}
		}
	})
}

// TestP8_4DayByDay goes by Day and by Back.
func TestP8_4DayByDay(t *testing.T) {
	eachState(func(a, b int, state []int) {
		after, before := state, state
		for n := range 14 {
			for _, c := range []struct {
				days int
				want []int
			}{{n, after}, {-n, before}} {
				if got, e := graze.Days(a, b, state, c.days); e != api.OK || !slices.Equal(got, c.want) {
					t.Fatal(a, b, state, c, got, e)
				}
			}
			var e, f api.Errno
			after, e = graze.Day(a, b, after)
			before, f = graze.Back(a, b, before)
			ok(t, e)
			ok(t, f)
		}
	})
}

func TestP8_4Round(t *testing.T) {
	eachState(func(a, b int, state []int) {
		if got, e := graze.Round(a, b, state); e != api.OK || !slices.EqualFunc(got, slowRound(a, b, state), slices.Equal) {
			t.Fatal(a, b, state, got, e)
		}
	})
}

func TestP8_5Sweep(t *testing.T) {
	eachState(func(a, b int, state []int) {
		want := slowTurns(a, b, state, slowSweepPlots(a, b))
		if got, e := graze.Sweep(a, b, state); e != api.OK || !slices.Equal(got, want) {
			t.Fatal(a, b, state, got, want, e)
		}
	})
}

func TestP8_6Word(t *testing.T) {
	eachState(func(a, b int, state []int) {
		want := slowWord(b, state)
		if got, e := graze.Word(a, b, state); e != api.OK || got != want {
			t.Fatal(a, b, state, got, want, e)
		}
		if got, e := graze.Of(a, b, want); e != api.OK || !slices.Equal(got, state) {
			t.Fatal(a, b, want, got, state, e)
		}
	})
}

// TestP8_6AllWords tries all words of letters u, r and x that have the right length, or nearly.
func TestP8_6AllWords(t *testing.T) {
	for a := 1; a <= 4; a++ {
		for b := 1; b <= 4; b++ {
			stateOf := map[string][]int{}
			for _, state := range slowStates(a, b) {
				stateOf[slowWord(b, state)] = state
			}
			for length := a + b - 1; length <= a+b+1; length++ {
				for _, letters := range allLists(length, 0, 2) {
					text := ""
					for _, letter := range letters {
						text += "urx"[letter:][:1]
					}
					want, isWord := stateOf[text]
					got, e := graze.Of(a, b, text)
					if isWord != (e == api.OK) || !isWord && e != api.ErrForm || !slices.Equal(got, want) {
						t.Fatal(a, b, text, got, want, e)
					}
				}
			}
		}
	}
}

// TestP8_7Same counts the states after each number of days.
func TestP8_7Same(t *testing.T) {
	eachSize(func(a, b int) {
		var rounds [][][]int
		for _, state := range slowStates(a, b) {
			rounds = append(rounds, slowRound(a, b, state))
		}
		numbers := slices.Clone(wild)
		for n := -26; n <= 26; n++ {
			numbers = append(numbers, n)
		}
		for _, n := range numbers {
			want := 0
			for _, round := range rounds {
				if slices.Equal(slowDays(round, n), round[0]) {
					want++
				}
			}
			if got, e := graze.Same(a, b, n); e != api.OK || got != want {
				t.Error(a, b, n, got, want, e)
			}
		}
	})
}
