package feuds_test

import (
	"math/rand/v2"
	"reflect"
	"slices"
	"sync"
	"testing"

	"droveway/api"
	"droveway/feuds"
)

// asked is what all functions together can be asked for.
type asked struct {
	n    int
	ties []api.Tie
	set  int
	ring []int
	want []bool
}

// The numbers of the functions in the lists of results and wantErrors.
const (
	sides = iota
	ring
	isRing
	switched
	wrong
	least
	apart
	same
	classes
	clans
	spoilt
	functions
)

// results calls all functions, and returns their errors; with an error, nothing else may be returned.
func results(t *testing.T, q asked) []api.Errno {
	t.Helper()
	errs := make([]api.Errno, functions)
	numbers := make([]int, functions)
	lists := make([][]int, functions)
	numbers[sides], errs[sides] = feuds.Sides(q.n, q.ties)
	lists[ring], errs[ring] = feuds.Ring(q.n, q.ties)
	lists[wrong], errs[wrong] = feuds.Wrong(q.n, q.ties, q.set)
	numbers[least], lists[least], errs[least] = feuds.Least(q.n, q.ties)
	numbers[same], errs[same] = feuds.Same(q.n, q.ties, q.want)
	numbers[classes], errs[classes] = feuds.Classes(q.n, q.ties)
	lists[clans], errs[clans] = feuds.Clans(q.n, q.ties)
	lists[spoilt], errs[spoilt] = feuds.Spoilt(q.n, q.ties)
	var is bool
	numbers[isRing], is, errs[isRing] = feuds.IsRing(q.n, q.ties, q.ring)
	var other []api.Tie
	other, errs[switched] = feuds.Switch(q.n, q.ties, q.set)
	var rings [][]int
	rings, errs[apart] = feuds.Apart(q.n, q.ties)
	for f := range functions {
		if errs[f] != api.OK && (numbers[f] != 0 || len(lists[f]) != 0) {
			t.Error("results with an error", f, q, numbers[f], lists[f])
		}
	}
	if (errs[isRing] != api.OK || !is) && numbers[isRing] != 0 || errs[isRing] != api.OK && is || errs[switched] != api.OK && len(other) != 0 || errs[apart] != api.OK && len(rings) != 0 {
		t.Error("results with an error", q, numbers[isRing], is, other, rings)
	}
	return errs
}

// wantErrors goes by the words of the chapter.
func wantErrors(q asked) []api.Errno {
	if e := slowTiesError(q.n, q.ties); e != api.OK {
		return slices.Repeat([]api.Errno{e}, functions)
	}
	d := drove{q.n, q.ties}
	want := make([]api.Errno, functions)
	if len(slowSides(d)) == 0 {
		want[sides] = api.ErrPlan
	}
	if slowShortest(d, isOdd) == nil {
		want[ring] = api.ErrPlan
	}
	if slowShortest(d, isOne) == nil {
		want[spoilt] = api.ErrPlan
	}
	if slowClans(d) == nil {
		want[clans] = api.ErrPlan
	}
	if !slices.Contains(allSets(q.n), q.set) {
		want[switched], want[wrong] = api.ErrArg, api.ErrArg
	}
	if len(q.ties) > 10 {
		want[apart] = api.ErrFull
	}
	switch {
	case len(q.want) != len(q.ties):
		want[same] = api.ErrArg
	case len(slowSame(d, q.want)) == 0:
		want[same] = api.ErrPlan
	}
	return want
}

// allSets returns the sum of 2^drover of all choices of drovers.
func allSets(n int) []int {
	sets := []int{0}
	power := 1
	for range n {
		for _, set := range sets {
			sets = append(sets, set+power)
		}
		power *= 2
	}
	return sets
}

// slowSame returns all sets by which the ties must be switched, ascending.
func slowSame(d drove, want []bool) []int {
	var sets []int
	for set := range 1 << d.n {
		isSame := true
		for i, t := range slowSwitch(d.ties, set) {
			isSame = isSame && t.Feud == want[i]
		}
		if isSame {
			sets = append(sets, set)
		}
	}
	return sets
}

func checkErrors(t *testing.T, q asked) {
	t.Helper()
	if got, want := results(t, q), wantErrors(q); !slices.Equal(got, want) {
		t.Errorf("%+v: %v, not %v", q, got, want)
	}
}

// wantAll asks for something, and expects the same error from all functions.
func wantAll(t *testing.T, q asked, e api.Errno) {
	t.Helper()
	if errs := results(t, q); !slices.Equal(errs, slices.Repeat([]api.Errno{e}, functions)) {
		t.Errorf("%+v: %v, not %v", q, errs, e)
	}
}

// TestNotDrovers asks for numbers of drovers that there cannot be; that comes before all other errors.
func TestNotDrovers(t *testing.T) {
	many := make([]api.Tie, 21)
	for _, n := range append([]int{0}, wild...) {
		if n == 8 {
			continue
		}
		for _, ties := range [][]api.Tie{nil, {}, {{A: 0, B: 1}}, {{A: 1, B: 0}}, many, complete(8, true)} {
			for _, set := range []int{0, 1, -1, 1 << 62} {
				wantAll(t, asked{n: n, ties: ties, set: set}, api.ErrArg)
				wantAll(t, asked{n: n, ties: ties, set: set, ring: []int{0, 1, 2}, want: make([]bool, 5)}, api.ErrArg)
			}
		}
	}
	for n := 1; n <= 8; n++ {
		if errs := results(t, asked{n: n}); errs[sides] != api.OK || errs[switched] != api.OK || errs[clans] != api.OK {
			t.Error(n, errs)
		}
	}
}

// TestNotTies asks for ties that there cannot be; that comes before what is wrong with a set or a list.
func TestNotTies(t *testing.T) {
	for n := 1; n <= 8; n++ {
		for _, ties := range notTies(n) {
			want := api.ErrArg
			if len(ties) > 20 {
				want = api.ErrLimit
			}
			if got := slowTiesError(n, ties); got != want {
				t.Fatal(n, ties, got)
			}
			for _, set := range []int{0, 1, -1, 1 << n} {
				wantAll(t, asked{n: n, ties: ties, set: set, want: make([]bool, len(ties))}, want)
				wantAll(t, asked{n: n, ties: ties, set: set, ring: []int{0, 1, 2}, want: make([]bool, len(ties)+1)}, want)
			}
		}
	}
}

// TestTies looks at all ties of small numbers, and at all lists of two of them.
func TestTies(t *testing.T) {
	for n := 1; n <= 8; n++ {
		for _, two := range allLists(2, -1, 9) {
			tie := api.Tie{A: two[0], B: two[1], Feud: true}
			checkErrors(t, asked{n: n, ties: []api.Tie{tie}})
			if n != 3 {
				continue
			}
			for _, other := range allLists(2, -1, 4) {
				checkErrors(t, asked{n: n, ties: []api.Tie{tie, {A: other[0], B: other[1]}}})
			}
		}
	}
}

// TestManyTies goes up to the limit of ties, and beyond it.
func TestManyTies(t *testing.T) {
	all := complete(8, true)
	for count := range len(all) + 1 {
		want := api.OK
		if count > 20 {
			want = api.ErrLimit
		}
		errs := results(t, asked{n: 8, ties: all[:count], want: make([]bool, count), set: 255})
		if errs[classes] != want || errs[least] != want || errs[switched] != want {
			t.Error(count, errs)
		}
		if want == api.OK && count > 10 {
			want = api.ErrFull
		}
		if errs[apart] != want {
			t.Error(count, errs)
		}
		// A list that is too long is not looked at.
		wrongTies := slices.Clone(all[:count])
		for _, at := range []int{0, count / 2, count - 1} {
			if count == 0 {
				continue
			}
			wrongTies[at].B = 8
			want := api.ErrArg
			if count > 20 {
				want = api.ErrLimit
			}
			wantAll(t, asked{n: 8, ties: wrongTies}, want)
			wantAll(t, asked{n: 0, ties: wrongTies}, api.ErrArg)
			wrongTies[at].B = all[at].B
		}
	}
}

func TestNotSets(t *testing.T) {
	for n := 1; n <= 8; n++ {
		ties := complete(n, n%2 == 0)
		ties = ties[:min(len(ties), 20)]
		for _, set := range append([]int{0, 1, 1<<n - 1, 1 << n, 1<<n + 1, 1<<32 - 1}, wild...) {
			want := api.ErrArg
			if set >= 0 && set < 1<<n {
				want = api.OK
			}
			for _, list := range [][]api.Tie{ties, nil} {
				if errs := results(t, asked{n: n, ties: list, set: set}); errs[switched] != want || errs[wrong] != want || errs[isRing] != api.OK {
					t.Error(n, set, errs)
				}
			}
		}
	}
}

// TestNotSame gives lists that are too short or too long; that comes before there being no such set.
func TestNotSame(t *testing.T) {
	for _, d := range largeDroves() {
		for length := range 25 {
			want := make([]bool, length)
			for i := range want {
				want[i] = i%2 == 0
			}
			_, e := feuds.Same(d.n, d.ties, want)
			if (e == api.ErrArg) != (length != len(d.ties)) {
				t.Error(d, length, e)
			}
		}
		for _, want := range [][]bool{nil, {}, make([]bool, 1<<16)} {
			if _, e := feuds.Same(d.n, d.ties, want); (e == api.ErrArg) != (len(want) != len(d.ties)) {
				t.Error(d, len(want), e)
			}
		}
	}
}

// TestP1Any calls the functions with anything: none of them panics, and what the chapter refuses is refused.
func TestP1Any(t *testing.T) {
	r := rand.New(rand.NewPCG(61, 62))
	// some is in range more often than not.
	some := func(least, most int) int {
		if r.IntN(30) == 0 {
			return wild[r.IntN(len(wild))]
		}
		return least + r.IntN(max(1, most-least+1))
	}
	for _, d := range randomDroves(2, 2000, 20) {
		q := asked{n: d.n, ties: d.ties, set: some(-1, 1<<d.n)}
		switch r.IntN(8) {
		case 0:
			q.n = some(0, 9)
		case 1:
			for range r.IntN(12) {
				q.ties = append(q.ties, api.Tie{A: some(0, 8), B: some(0, 8), Feud: r.IntN(2) == 0})
			}
		case 2:
			if len(q.ties) > 0 {
				q.ties[r.IntN(len(q.ties))] = api.Tie{A: some(-1, 8), B: some(-1, 8)}
			}
		}
		for range r.IntN(10) {
			q.ring = append(q.ring, some(-1, len(q.ties)))
		}
		q.want = make([]bool, len(q.ties))
		if r.IntN(6) == 0 {
			q.want = make([]bool, r.IntN(21))
		}
		for i := range q.want {
			q.want[i] = r.IntN(2) == 0
		}
		checkErrors(t, q)
	}
}

// twice calls a function, changes all that it returned, and calls it again.
func twice(t *testing.T, call func() any) {
	t.Helper()
	first, second := call(), call()
	if !reflect.DeepEqual(first, second) || reflect.ValueOf(first).Len() == 0 {
		t.Error(first, second)
	}
	switch list := first.(type) {
	case []int:
		clear(list[:cap(list)])
	case []api.Tie:
		clear(list[:cap(list)])
	case [][]int:
		for _, inner := range list {
			clear(inner[:cap(inner)])
		}
		clear(list[:cap(list)])
	default:
		t.Fatalf("%T", first)
	}
	if third := call(); !reflect.DeepEqual(third, second) {
		t.Error(second, third)
	}
}

// TestP2Same calls each function twice with the same: it changes nothing, keeps nothing, and returns the same in new memory.
func TestP2Same(t *testing.T) {
	// The lists have room behind them, which no function may use.
	ties := complete(5, true)
	ties[3].Feud = false
	wantTies := slices.Clone(ties)
	list := ties[:9]
	want := make([]bool, 10)
	want[9] = true
	numbers := []int{0, 1, 4, -5, -6}
	twice(t, func() any { got, _ := feuds.Ring(5, list); return got })
	twice(t, func() any { got, _ := feuds.Switch(5, list, 0); return got })
	twice(t, func() any { got, _ := feuds.Switch(5, list, 5); return got })
	twice(t, func() any { got, _ := feuds.Switch(5, list, 31); return got })
	twice(t, func() any { got, _ := feuds.Wrong(5, list, 3); return got })
	twice(t, func() any { _, got, _ := feuds.Least(5, list); return got })
	twice(t, func() any { got, _ := feuds.Apart(5, list); return got })
	twice(t, func() any { got, _ := feuds.Clans(5, list); return got })
	twice(t, func() any {
		got, _ := feuds.Spoilt(3, []api.Tie{{A: 0, B: 1}, {A: 1, B: 2}, {A: 0, B: 2, Feud: true}})
		return got
	})
	for range 2 {
		if set, e := feuds.Same(5, list, want[:9]); set != 0 || e != api.ErrPlan {
			t.Error(set, e)
		}
		if count, is, e := feuds.IsRing(5, list, numbers[:3]); count != 3 || !is || e != api.OK {
			t.Error(count, is, e)
		}
	}
	if !slices.Equal(ties, wantTies) || !slices.Equal(want, append(make([]bool, 9), true)) || !slices.Equal(numbers, []int{0, 1, 4, -5, -6}) {
		t.Error(ties, want, numbers)
	}
}

// TestRule4New changes the lists of one result, none of which may be seen in another one.
func TestRule4New(t *testing.T) {
	for _, d := range slices.Concat(randomDroves(3, 300, 10), []drove{{5, complete(5, true)}}) {
		given := slices.Clone(d.ties)
		rings, e := feuds.Apart(d.n, given)
		ok(t, e)
		want := slowApart(d)
		for k := range rings {
			if !slices.Equal(rings[k], want[k]) {
				t.Fatal(d, k, rings, want)
			}
			clear(rings[k])
			_ = append(rings[k], 7, 7, 7)
		}
		switchedTies, e := feuds.Switch(d.n, given, 1)
		ok(t, e)
		clear(switchedTies[:cap(switchedTies)])
		if !slices.Equal(given, d.ties) {
			t.Fatal(d, given)
		}
		again, e := feuds.Switch(d.n, given, 1)
		ok(t, e)
		clear(given)
		if !slices.Equal(again, slowSwitch(d.ties, 1)) {
			t.Fatal(d, again)
		}
	}
}

// TestP2Goroutines calls the functions from several goroutines at once: nothing that they keep is shared.
func TestP2Goroutines(t *testing.T) {
	droves := randomDroves(4, 60, 20)
	var callers sync.WaitGroup
	for range 8 {
		callers.Go(func() {
			for _, d := range droves {
				want := slowShortest(d, isOdd)
				if got, e := feuds.Ring(d.n, d.ties); !slices.Equal(got, want) || (e == api.OK) != (want != nil) {
					t.Error(d, got, want, e)
				}
				if got, e := feuds.Switch(d.n, d.ties, 1); !slices.Equal(got, slowSwitch(d.ties, 1)) || e != api.OK {
					t.Error(d, got, e)
				}
			}
		})
	}
	callers.Wait()
}
