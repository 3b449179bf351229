package graze_test

import (
	"math"
	"math/rand/v2"
	"reflect"
	"slices"
	"sync"
	"testing"

	"droveway/api"
	"droveway/graze"
)

// asked is what all functions together can be asked for.
type asked struct {
	a, b  int
	state []int
	i, j  int
	plots []api.Pair
	days  int
	word  string
}

// The numbers of the functions in the lists of results and wantErrors.
const (
	day = iota
	back
	turn
	turns
	days
	round
	sweep
	word
	of
	ends
	same
	functions
)

// results calls all functions, and returns their errors; with an error, nothing else may be returned.
func results(t *testing.T, q asked) []api.Errno {
	t.Helper()
	errs := make([]api.Errno, functions)
	lists := make([][]int, functions)
	lists[day], errs[day] = graze.Day(q.a, q.b, q.state)
	lists[back], errs[back] = graze.Back(q.a, q.b, q.state)
	lists[turn], errs[turn] = graze.Turn(q.a, q.b, q.state, q.i, q.j)
	lists[turns], errs[turns] = graze.Turns(q.a, q.b, q.state, q.plots)
	lists[days], errs[days] = graze.Days(q.a, q.b, q.state, q.days)
	lists[sweep], errs[sweep] = graze.Sweep(q.a, q.b, q.state)
	lists[of], errs[of] = graze.Of(q.a, q.b, q.word)
	for f, list := range lists {
		if errs[f] != api.OK && len(list) != 0 {
			t.Error("a list with an error", f, q, list)
		}
	}
	var states [][]int
	var text string
	var first, second []api.Pair
	var number int
	states, errs[round] = graze.Round(q.a, q.b, q.state)
	text, errs[word] = graze.Word(q.a, q.b, q.state)
	first, second, errs[ends] = graze.Ends(q.a, q.b, q.state)
	number, errs[same] = graze.Same(q.a, q.b, q.days)
	if errs[round] != api.OK && len(states) != 0 || errs[word] != api.OK && text != "" || errs[ends] != api.OK && len(first)+len(second) != 0 || errs[same] != api.OK && number != 0 {
		t.Error("results with an error", q)
	}
	return errs
}

// wantErrors goes by the words of the chapter.
func wantErrors(q asked) []api.Errno {
	if !isSize(q.a, q.b) {
		return slices.Repeat([]api.Errno{api.ErrArg}, functions)
	}
	want := make([]api.Errno, functions)
	if !isWord(q.a, q.b, q.word) {
		want[of] = api.ErrForm
	}
	if !isState(q.a, q.b, q.state) {
		for _, f := range []int{day, back, turn, turns, days, round, sweep, word, ends} {
			want[f] = api.ErrArg
		}
		return want
	}
	if !isPlot(q.a, q.b, api.Pair{A: q.i, B: q.j}) {
		want[turn] = api.ErrArg
	}
	if len(q.plots) > 200 {
		want[turns] = api.ErrLimit
		return want
	}
	for _, plot := range q.plots {
		if !isPlot(q.a, q.b, plot) {
			want[turns] = api.ErrArg
		}
	}
	return want
}

func checkErrors(t *testing.T, q asked) {
	t.Helper()
	if got, want := results(t, q), wantErrors(q); !slices.Equal(got, want) {
		t.Errorf("%+v: %v, not %v", q, got, want)
	}
}

// TestNotSizes asks for pastures that there cannot be; that comes before all other errors.
func TestNotSizes(t *testing.T) {
	many := make([]api.Pair, 201)
	for _, n := range append([]int{0}, wild...) {
		for _, size := range [][2]int{{n, 1}, {n, 6}, {1, n}, {6, n}, {n, n}} {
			for _, state := range [][]int{nil, {}, {0}, {1}, {0, 0}, {n}, make([]int, 6), make([]int, 7), {-1}, {9, 9}} {
				for _, text := range []string{"", "u", "r", "ur", "uuuuuuu", "uuuuuurrrrrrr", "x"} {
					q := asked{a: size[0], b: size[1], state: state, word: text}
					checkErrors(t, q)
					q.i, q.plots, q.days = -1, many, n
					if errs := results(t, q); !slices.Equal(errs, slices.Repeat([]api.Errno{api.ErrArg}, functions)) {
						t.Error(size, state, text, errs)
					}
				}
			}
		}
	}
}

// TestNotStates asks for lists that are no states; that comes before what is wrong with the plots.
func TestNotStates(t *testing.T) {
	eachSize(func(a, b int) {
		many := make([]api.Pair, 201)
		for _, list := range notStates(a, b) {
			if isState(a, b, list) {
				t.Fatal(a, b, list)
			}
			for _, plots := range [][]api.Pair{nil, many, {{A: -1}}} {
				q := asked{a: a, b: b, state: list, plots: plots, word: slowWord(b, make([]int, a))}
				checkErrors(t, q)
				q.i = -1
				checkErrors(t, q)
			}
		}
	})
}

// TestStates looks at all lists of up to four small numbers.
func TestStates(t *testing.T) {
	for a := 1; a <= 4; a++ {
		for b := 1; b <= 4; b++ {
			for length := range 6 {
				for _, list := range allLists(length, -1, min(b+1, 6-length)) {
					checkErrors(t, asked{a: a, b: b, state: list})
				}
			}
		}
	}
}

func TestNotPlots(t *testing.T) {
	numbers := append([]int{0, 1, 2, 3, 4, 5, 6}, wild...)
	eachSize(func(a, b int) {
		states := slowStates(a, b)
		for _, state := range [][]int{states[0], states[len(states)/2], states[len(states)-1]} {
			for _, i := range numbers {
				for _, j := range numbers {
					plot := api.Pair{A: i, B: j}
					want := api.ErrArg
					if i >= 0 && i < a && j >= 0 && j < b {
						want = api.OK
					}
					if got, e := graze.Turn(a, b, state, i, j); e != want || e != api.OK && len(got) != 0 {
						t.Error(a, b, state, plot, got, e)
					}
					// The first plot of a list is looked at, the last one, and those between.
					for _, plots := range [][]api.Pair{{plot}, {plot, {}}, {{}, plot}, {{}, plot, {A: a - 1, B: b - 1}}} {
						if got, e := graze.Turns(a, b, state, plots); e != want || e != api.OK && len(got) != 0 {
							t.Error(a, b, state, plots, got, e)
						}
					}
				}
			}
		}
	})
}

func TestTooManyPlots(t *testing.T) {
	eachSize(func(a, b int) {
		state := slices.Repeat([]int{b}, a)
		for _, c := range []struct {
			length int
			err    api.Errno
		}{{0, api.OK}, {199, api.OK}, {200, api.OK}, {201, api.ErrLimit}, {202, api.ErrLimit}, {256, api.ErrLimit}, {1 << 16, api.ErrLimit}} {
			plots := make([]api.Pair, c.length)
			if errs := results(t, asked{a: a, b: b, state: state, plots: plots}); errs[turns] != c.err {
				t.Error(a, b, c, errs)
			}
			// A list that is too long is not looked at.
			for _, at := range []int{0, c.length / 2, c.length - 1} {
				if c.length == 0 {
					continue
				}
				wrong := slices.Clone(plots)
				wrong[at].B = b
				want := api.ErrArg
				if c.length > 200 {
					want = api.ErrLimit
				}
				if errs := results(t, asked{a: a, b: b, state: state, plots: wrong}); errs[turns] != want {
					t.Error(a, b, c, at, errs)
				}
			}
		}
	})
}

func TestNotWords(t *testing.T) {
	eachSize(func(a, b int) {
		for _, text := range notWords(a, b) {
			if isWord(a, b, text) {
				continue
			}
			if state, e := graze.Of(a, b, text); e != api.ErrForm || len(state) != 0 {
				t.Errorf("%d %d %q: %v %v", a, b, text, state, e)
			}
			for _, n := range []int{0, 7, -1, math.MinInt} {
				if state, e := graze.Of(n, b, text); e != api.ErrArg || len(state) != 0 {
					t.Errorf("%d %d %q: %v %v", n, b, text, state, e)
				}
				if state, e := graze.Of(a, n, text); e != api.ErrArg || len(state) != 0 {
					t.Errorf("%d %d %q: %v %v", a, n, text, state, e)
				}
			}
		}
	})
}

// TestP1Any calls the functions with anything: none of them panics, and what the chapter refuses is refused.
func TestP1Any(t *testing.T) {
	r := rand.New(rand.NewPCG(51, 52))
	// some is in range more often than not.
	some := func(least, most int) int {
		if r.IntN(20) == 0 {
			return wild[r.IntN(len(wild))]
		}
		return least + r.IntN(most-least+1)
	}
	for range 30000 {
		q := asked{a: some(0, 7), b: some(0, 7), i: some(-1, 6), j: some(-1, 6), days: some(-40, 40)}
		for range r.IntN(8) {
			q.state = append(q.state, some(0, 7))
		}
		if isSize(q.a, q.b) && r.IntN(3) > 0 {
			q.state = make([]int, q.a)
			for i := range q.state {
				q.state[i] = r.IntN(q.b + 1)
			}
			slices.SortFunc(q.state, func(x, y int) int { return y - x })
		}
		for range r.IntN(3) * r.IntN(120) {
			q.plots = append(q.plots, api.Pair{A: r.IntN(6), B: r.IntN(6)})
		}
		if len(q.plots) > 0 && r.IntN(3) == 0 {
			q.plots[r.IntN(len(q.plots))] = api.Pair{A: some(0, 6), B: some(0, 6)}
		}
		letters := "uuuuuurrrrrrx\xff"
		for range r.IntN(14) {
			q.word += letters[r.IntN(len(letters)):][:1]
		}
		checkErrors(t, q)
	}
}

// twice calls a function, changes all that it returned, and calls it again.
func twice(t *testing.T, call func() any) {
	t.Helper()
	first, second := call(), call()
	if !reflect.DeepEqual(first, second) || reflect.ValueOf(first).Len() == 0 {
		t.Error(first, second)
	}
	switch list := first.(type) {
	case []int:
		clear(list[:cap(list)])
	case []api.Pair:
		clear(list[:cap(list)])
	case [][]int:
		for _, inner := range list {
			clear(inner[:cap(inner)])
		}
		clear(list[:cap(list)])
	default:
		t.Fatalf("%T", first)
	}
	if third := call(); !reflect.DeepEqual(third, second) {
		t.Error(second, third)
	}
}

// TestP2Same calls each function twice with the same: it changes nothing, keeps nothing, and returns the same in new memory.
func TestP2Same(t *testing.T) {
	room := []int{4, 3, 1, -5, -6, -7}
	state := room[:3:6]
	plots := []api.Pair{{A: 2, B: 1}, {A: 0, B: 3}, {A: 1, B: 1}, {A: -8, B: -9}}
	list := plots[:3:4]
	wantRoom, wantPlots := slices.Clone(room), slices.Clone(plots)
	twice(t, func() any { got, _ := graze.Day(3, 5, state); return got })
	twice(t, func() any { got, _ := graze.Back(3, 5, state); return got })
	twice(t, func() any { got, _ := graze.Turn(3, 5, state, 2, 1); return got })
	twice(t, func() any { got, _ := graze.Turn(3, 5, state, 2, 4); return got })
	twice(t, func() any { got, _ := graze.Turns(3, 5, state, list); return got })
	twice(t, func() any { got, _ := graze.Turns(3, 5, state, nil); return got })
	twice(t, func() any { got, _ := graze.Days(3, 5, state, 3); return got })
	twice(t, func() any { got, _ := graze.Days(3, 5, state, 0); return got })
	twice(t, func() any { got, _ := graze.Days(3, 5, state, 8); return got })
	twice(t, func() any { got, _ := graze.Round(3, 5, state); return got })
	twice(t, func() any { got, _ := graze.Sweep(3, 5, state); return got })
	twice(t, func() any { got, _ := graze.Of(3, 5, "rurrurur"); return got })
	twice(t, func() any { got, _, _ := graze.Ends(3, 5, state); return got })
	twice(t, func() any { _, got, _ := graze.Ends(3, 5, state); return got })
	if !slices.Equal(room, wantRoom) || !slices.Equal(plots, wantPlots) {
		t.Error(room, plots)
	}
}

// TestRule4New changes the lists of one result, none of which may be seen in another one.
func TestRule4New(t *testing.T) {
	eachState(func(a, b int, state []int) {
		given := slices.Clone(state)
		states, e := graze.Round(a, b, given)
		ok(t, e)
		want := slowRound(a, b, state)
		for k := range states {
			if !slices.Equal(states[k], want[k]) {
				t.Fatal(a, b, state, k, states, want)
			}
			clear(states[k])
			_ = append(states[k], 7, 7, 7)
		}
		first, second, e := graze.Ends(a, b, given)
		ok(t, e)
		_ = append(first, slices.Repeat([]api.Pair{{A: 7, B: 7}}, 8)...)
		clear(first)
		if !slices.Equal(second, slowNext(a, b, state)) || !slices.Equal(given, state) {
			t.Fatal(a, b, state, second, given)
		}
	})
}

// TestP2Goroutines calls the functions from several goroutines at once: nothing that they keep is shared.
func TestP2Goroutines(t *testing.T) {
	var callers sync.WaitGroup
	for k := range 8 {
		callers.Add(1)
		go func() {
			defer callers.Done()
			for a := 1 + k%3; a <= 5; a++ {
				for _, state := range slowStates(a, 5) {
					got, e := graze.Days(a, 5, state, k)
					if want := slowDays(slowRound(a, 5, state), k); e != api.OK || !slices.Equal(got, want) {
						t.Error(a, state, k, got, want, e)
					}
				}
			}
		}()
	}
	callers.Wait()
}
