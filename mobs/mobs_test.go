package mobs_test

import (
	"math"
	"math/rand/v2"
	"slices"
	"sync"
	"testing"

	"droveway/api"
	"droveway/mobs"
)

// asked is what all functions together can be asked for.
type asked struct {
	a, b            []int
	n, number, rank int
}

// results calls all functions that return an error, and returns their errors; with an error, nothing else may be returned.
func results(t *testing.T, q asked) []api.Errno {
	t.Helper()
	lists, e0 := mobs.Mobs(q.a)
	number, e1 := mobs.Number(q.a)
	rank, e2 := mobs.Rank(q.a)
	at, e3 := mobs.At(q.n, q.rank)
	count, e4 := mobs.Count(q.n, q.number)
	finer, e5 := mobs.Finer(q.a, q.b)
	first, second, e6 := mobs.Meet(q.a, q.b)
	four, crossed, e7 := mobs.Crossed(q.a)
	between, e8 := mobs.Between(q.a)
	around, e9 := mobs.Around(q.a, q.rank)
	plain, e10 := mobs.Plain(q.n, q.number)
	if e0 != api.OK && len(lists) != 0 || e1 != api.OK && len(number) != 0 || e2 != api.OK && rank != 0 || e3 != api.OK && len(at) != 0 || e4 != api.OK && count != 0 || e5 != api.OK && finer ||
		e6 != api.OK && (len(first) != 0 || len(second) != 0) || e7 != api.OK && (four != [4]int{} || crossed) || e8 != api.OK && len(between) != 0 || e9 != api.OK && len(around) != 0 || e10 != api.OK && plain != 0 {
		t.Error("results with an error", q)
	}
	return []api.Errno{e0, e1, e2, e3, e4, e5, e6, e7, e8, e9, e10}
}

// wantErrors goes by the words of the chapter.
func wantErrors(q asked) []api.Errno {
	want := make([]api.Errno, 11)
	one, both := slowPartingError(q.a), slowPartingError(q.a)
	if both == api.OK {
		both = slowPartingError(q.b)
	}
	if both == api.OK && len(q.a) != len(q.b) {
		both = api.ErrArg
	}
	want[0], want[2], want[7], want[8], want[9] = one, one, one, one, one
	want[5], want[6] = both, both
	if len(q.a) > 12 {
		want[1] = api.ErrLimit
	}
	if one == api.OK && len(slowCrossings(q.a)) > 0 {
		want[8] = api.ErrState
	}
	if q.n < 0 || q.n > 12 {
		want[3], want[4], want[10] = api.ErrArg, api.ErrArg, api.ErrArg
		return want
	}
	if q.rank < 0 || q.rank >= bells[q.n] {
		want[3] = api.ErrRange
	}
	if q.number < 0 || q.number > q.n {
		want[4], want[10] = api.ErrArg, api.ErrArg
	}
	return want
}

func checkErrors(t *testing.T, q asked) {
	t.Helper()
	if got, want := results(t, q), wantErrors(q); !slices.Equal(got, want) || mobs.IsParting(q.a) != (want[0] == api.OK) {
		t.Errorf("%+v: %v, not %v", q, got, want)
	}
}

func TestNotPartings(t *testing.T) {
	all := slices.Concat(notPartings, tooLong())
	for _, a := range all {
		want := api.ErrArg
		if len(a) > 12 {
			want = api.ErrLimit
		}
		if mobs.IsParting(a) {
			t.Error(a)
		}
		errs := results(t, asked{a: a, b: a})
		for _, i := range []int{0, 2, 5, 6, 7, 8, 9} {
			if errs[i] != want {
				t.Error(a, "function", i, errs[i])
			}
		}
		// The second list decides if the first one is a parting, whatever their lengths are.
		for _, good := range [][]int{nil, {0}, {0, 1}, {0, 1, 0, 1}, make([]int, 12)} {
			if errs := results(t, asked{a: good, b: a}); errs[5] != want || errs[6] != want {
				t.Error(good, a, errs)
			}
			if errs := results(t, asked{a: a, b: good}); errs[5] != want || errs[6] != want {
				t.Error(a, good, errs)
			}
		}
		for _, b := range all {
			checkErrors(t, asked{a: a, b: b})
		}
	}
}

func TestNotSameLength(t *testing.T) {
	for n := range 13 {
		for k := range 13 {
			want := api.OK
			if n != k {
				want = api.ErrArg
			}
			errs := results(t, asked{a: make([]int, n), b: make([]int, k)})
			if errs[5] != want || errs[6] != want || errs[0] != api.OK {
				t.Error(n, k, errs)
			}
		}
	}
}

func TestNotNumbers(t *testing.T) {
	for _, n := range wild {
		for _, k := range append([]int{0, 1, 2}, wild...) {
			checkErrors(t, asked{n: n, number: k, rank: k})
			if n == 12 {
				continue
			}
			if errs := results(t, asked{n: n, number: k, rank: k}); errs[3] != api.ErrArg || errs[4] != api.ErrArg || errs[10] != api.ErrArg {
				t.Error(n, k, errs)
			}
		}
	}
	for n := range 13 {
		for _, k := range []int{-1, n + 1, n + 2, math.MinInt, math.MaxInt, 1<<32 + 1} {
			if errs := results(t, asked{n: n, number: k}); errs[4] != api.ErrArg || errs[10] != api.ErrArg {
				t.Error(n, k, errs)
			}
		}
		for _, rank := range []int{-1, bells[n], bells[n] + 1, math.MinInt, math.MaxInt, 1 << 32, 1 << 40} {
			if errs := results(t, asked{n: n, rank: rank}); errs[3] != api.ErrRange {
				t.Error(n, rank, errs)
			}
		}
		for _, rank := range []int{0, bells[n] - 1} {
			if errs := results(t, asked{n: n, rank: rank, number: n}); errs[3] != api.OK || errs[4] != api.OK || errs[10] != api.OK {
				t.Error(n, rank, errs)
			}
		}
	}
}

// TestIsParting looks at all lists of up to six small numbers.
func TestIsParting(t *testing.T) {
	lists := [][]int{nil, {}}
	for i := 0; i < len(lists); i++ {
		list := lists[i]
		if mobs.IsParting(list) != (slowPartingError(list) == api.OK) {
			t.Fatal(list)
		}
		if len(list) < 6 && i > 0 {
			for x := -1; x <= len(list)+1; x++ {
				lists = append(lists, append(slices.Clone(list), x))
			}
		}
	}
	for n := range 13 {
		for _, list := range randomPartings(100, n) {
			if !mobs.IsParting(list) {
				t.Error(list)
			}
		}
	}
	for _, list := range [][]int{nil, {}, {0}, {0, 0}, {0, 1}, {0, 1, 2, 3, 4, 5, 6, 7, 8, 9, 10, 11}, make([]int, 12)} {
		if !mobs.IsParting(list) {
			t.Error(list)
		}
	}
}

// TestP1Any calls the functions with anything: none of them panics, and what the chapter refuses is refused.
func TestP1Any(t *testing.T) {
	r := rand.New(rand.NewPCG(21, 22))
	// some is in range more often than not.
	some := func(n int) int {
		if r.IntN(20) == 0 {
			return wild[r.IntN(len(wild))]
		}
		return r.IntN(max(1, n))
	}
	list := func() []int {
		switch r.IntN(8) {
		case 0:
			return notPartings[r.IntN(len(notPartings))]
		case 1:
			return tooLong()[r.IntN(len(tooLong()))]
		}
		list := randomPartings(20, r.IntN(13))[r.IntN(20)]
		if len(list) > 0 && r.IntN(4) == 0 {
			list[r.IntN(len(list))] = some(12)
		}
		return list
	}
	for range 20000 {
		q := asked{a: list(), b: list(), n: some(14), number: some(13)}
		if r.IntN(2) == 0 && len(q.a) <= 12 {
			q.b = randomPartings(20, len(q.a))[r.IntN(20)]
		}
		q.rank = some(bells[max(0, min(q.n, 12))] + 5)
		checkErrors(t, q)
	}
}

// twice calls a function two times, and changes what the first call returned: nothing is kept or shared.
func twice(t *testing.T, f func() ([]int, api.Errno)) {
	t.Helper()
	first, e := f()
	kept := slices.Clone(first)
	clear(first[:cap(first)])
	if second, g := f(); !slices.Equal(second, kept) || e != g {
		t.Error(kept, second, e, g)
	}
}

// crowded returns a copy of a list with room behind it, and what a check says whether anything there was changed.
func crowded(list []int) ([]int, func() bool) {
	whole := append(slices.Clone(list), 77, 78, 79, 80)
	return whole[:len(list)], func() bool {
		return !slices.Equal(whole[:len(list)], list) || !slices.Equal(whole[len(list):], []int{77, 78, 79, 80})
	}
}

func TestP2Same(t *testing.T) {
	for n := range 13 {
		others := randomPlain(40, n)
		for i, list := range slices.Concat(randomPartings(40, n), others) {
			a, changedA := crowded(list)
			b, changedB := crowded(others[i%40])
			twice(t, func() ([]int, api.Errno) { return mobs.Number(a) })
			twice(t, func() ([]int, api.Errno) { return mobs.Between(a) })
			twice(t, func() ([]int, api.Errno) { return mobs.Around(a, 0) })
			twice(t, func() ([]int, api.Errno) { return mobs.Around(a, i) })
			twice(t, func() ([]int, api.Errno) { return mobs.At(n, i%bells[n]) })
			twice(t, func() ([]int, api.Errno) { first, _, e := mobs.Meet(a, b); return first, e })
			twice(t, func() ([]int, api.Errno) { _, second, e := mobs.Meet(a, b); return second, e })
			twice(t, func() ([]int, api.Errno) { first, _, e := mobs.Meet(a, a); return first, e })
			twice(t, func() ([]int, api.Errno) { _, second, e := mobs.Meet(a, a); return second, e })
			for mob := range mobsOf(a) {
				twice(t, func() ([]int, api.Errno) { lists, e := mobs.Mobs(a); return lists[mob], e })
			}
			q := asked{a: a, b: b, n: n, number: i % 14, rank: i}
			if first, second := results(t, q), results(t, q); !slices.Equal(first, second) {
				t.Error(q, first, second)
			}
			if changedA() || changedB() {
				t.Error("changed:", list, a, b)
			}
		}
	}
}

// TestRule4Shared changes one list of a result, and looks at the others.
func TestRule4Shared(t *testing.T) {
	for n := range 13 {
		for _, list := range append(randomPartings(30, n), slowNumber(make([]int, n))) {
			lists, _ := mobs.Mobs(list)
			want := slowMobs(list)
			for i := range lists {
				clear(lists[i][:cap(lists[i])])
				for k := i + 1; k < len(lists); k++ {
					if !slices.Equal(lists[k], want[k]) {
						t.Fatal(list, i, k, lists)
					}
				}
			}
			first, second, _ := mobs.Meet(list, list)
			for i := range first {
				first[i] = -1
			}
			if !slices.Equal(second, list) {
				t.Fatal(list, second)
			}
		}
	}
}

// TestP2Meet calls Meet in many goroutines at once: the schedule must not show.
func TestP2Meet(t *testing.T) {
	a, b := randomPartings(200, 12), randomPartings(201, 12)
	var firsts, seconds [][]int
	for i := range a {
		first, second := slowMeet(t, a[i], b[i])
		firsts, seconds = append(firsts, first), append(seconds, second)
	}
	var callers sync.WaitGroup
	for range 8 {
		callers.Go(func() {
			for i := range 20 * len(a) {
				i %= len(a)
				if first, second, e := mobs.Meet(a[i], b[i]); !slices.Equal(first, firsts[i]) || !slices.Equal(second, seconds[i]) || e != api.OK {
					t.Error(a[i], b[i], first, second, e)
				}
			}
		})
	}
	callers.Wait()
}

func sameLists(a, b [][]int) bool { return slices.EqualFunc(a, b, slices.Equal) }

func TestP6_1Mobs(t *testing.T) {
	for _, c := range []struct {
		list []int
		want [][]int
	}{
		{nil, nil}, {[]int{0}, [][]int{{0}}}, {[]int{0, 0}, [][]int{{0, 1}}}, {[]int{0, 1}, [][]int{{0}, {1}}}, {[]int{0, 1, 0}, [][]int{{0, 2}, {1}}}, {[]int{0, 1, 1}, [][]int{{0}, {1, 2}}}, {[]int{0, 1, 2, 1, 0}, [][]int{{0, 4}, {1, 3}, {2}}},
		{[]int{0, 1, 2, 3, 4, 5, 6, 7, 8, 9, 10, 11}, [][]int{{0}, {1}, {2}, {3}, {4}, {5}, {6}, {7}, {8}, {9}, {10}, {11}}}, {make([]int, 12), [][]int{{0, 1, 2, 3, 4, 5, 6, 7, 8, 9, 10, 11}}}, {[]int{0, 1, 0, 1, 0, 1, 0, 1, 0, 1, 0, 1}, [][]int{{0, 2, 4, 6, 8, 10}, {1, 3, 5, 7, 9, 11}}},
	} {
		if lists, e := mobs.Mobs(c.list); !sameLists(lists, c.want) || e != api.OK {
			t.Error(c, lists, e)
		}
	}
	for n := range 13 {
		all := randomPartings(300, n)
		if n <= 7 {
			all = allPartings(n)
		}
		for _, list := range all {
			if lists, e := mobs.Mobs(list); !sameLists(lists, slowMobs(list)) || e != api.OK {
				t.Fatal(list, lists, e)
			}
		}
	}
}

func TestP6_1Number(t *testing.T) {
	for _, c := range []struct{ of, want []int }{
		{nil, nil}, {[]int{}, nil}, {[]int{5}, []int{0}}, {[]int{-1}, []int{0}}, {[]int{1, 0}, []int{0, 1}}, {[]int{7, 7}, []int{0, 0}}, {[]int{1, 0, 1}, []int{0, 1, 0}}, {[]int{2, 2, 9, 9}, []int{0, 0, 1, 1}}, {[]int{3, 2, 1, 0, 1, 2, 3}, []int{0, 1, 2, 3, 2, 1, 0}},
		{[]int{math.MaxInt, math.MinInt, math.MaxInt, 0}, []int{0, 1, 0, 2}}, {[]int{1, 1<<32 + 1, 1 << 32, 0}, []int{0, 1, 2, 3}}, {[]int{-1, math.MaxInt, -1, math.MaxInt}, []int{0, 1, 0, 1}}, {slices.Repeat([]int{9}, 12), make([]int, 12)},
		{[]int{11, 10, 9, 8, 7, 6, 5, 4, 3, 2, 1, 0}, []int{0, 1, 2, 3, 4, 5, 6, 7, 8, 9, 10, 11}}, {[]int{0, 1, 2, 3, 4, 5, 6, 7, 8, 9, 10, 12}, []int{0, 1, 2, 3, 4, 5, 6, 7, 8, 9, 10, 11}},
	} {
		if list, e := mobs.Number(c.of); !slices.Equal(list, c.want) || e != api.OK {
			t.Error(c, list, e)
		}
	}
	for _, long := range tooLong() {
		if list, e := mobs.Number(long); len(list) != 0 || e != api.ErrLimit {
			t.Error(len(long), list, e)
		}
	}
	r := rand.New(rand.NewPCG(23, 24))
	for range 5000 {
		of := make([]int, r.IntN(13))
		for i := range of {
			if of[i] = r.IntN(12) - 3; r.IntN(4) == 0 {
				of[i] = wild[r.IntN(len(wild))]
			}
		}
		list, e := mobs.Number(of)
		if !slices.Equal(list, slowNumber(of)) || e != api.OK {
			t.Fatal(of, list, e)
		}
		for i := range of {
			for k := range of {
				if (of[i] == of[k]) != (list[i] == list[k]) {
					t.Fatal(of, list, i, k)
				}
			}
		}
	}
}

func TestP6_2RankAt(t *testing.T) {
	for _, c := range []struct {
		list []int
		rank int
	}{
		{nil, 0}, {[]int{0}, 0}, {[]int{0, 0}, 0}, {[]int{0, 1}, 1}, {[]int{0, 0, 0}, 0}, {[]int{0, 0, 1}, 1}, {[]int{0, 1, 0}, 2}, {[]int{0, 1, 1}, 3}, {[]int{0, 1, 2}, 4}, {[]int{0, 0, 1, 2}, 4}, {[]int{0, 1, 0, 0}, 5}, {[]int{0, 1, 0, 1}, 6}, {[]int{0, 1, 2, 3}, 14},
		{make([]int, 12), 0}, {[]int{0, 0, 0, 0, 0, 0, 0, 0, 0, 0, 0, 1}, 1}, {[]int{0, 1, 2, 3, 4, 5, 6, 7, 8, 9, 10, 11}, 4213596}, {[]int{0, 1, 2, 3, 4, 5, 6, 7, 8, 9, 10, 10}, 4213595}, {[]int{0, 0, 1, 2, 3, 4, 5, 6, 7, 8, 9, 10}, 678569}, {[]int{0, 1, 0, 0, 0, 0, 0, 0, 0, 0, 0, 0}, 678570},
	} {
		if rank, e := mobs.Rank(c.list); rank != c.rank || e != api.OK {
			t.Error(c, rank, e)
		}
		if list, e := mobs.At(len(c.list), c.rank); !slices.Equal(list, c.list) || e != api.OK {
			t.Error(c, list, e)
		}
	}
}

// TestP6_2All looks at all partings of up to nine beasts, and at some of up to twelve: they come in order.
func TestP6_2All(t *testing.T) {
	for n := range 13 {
		rank := 0
		for list := range func(yield func(list []int) bool) { eachParting(n, yield) } {
			if n <= 9 || rank%97 == 0 {
				if got, e := mobs.Rank(list); got != rank || e != api.OK {
					t.Fatal(list, got, rank, e)
				}
				if at, e := mobs.At(n, rank); !slices.Equal(at, list) || e != api.OK {
					t.Fatal(n, rank, at, list, e)
				}
			}
			rank++
		}
		if rank != bells[n] {
			t.Error(n, rank)
		}
	}
}

// TestP6_3CountPlain counts all partings.
func TestP6_3CountPlain(t *testing.T) {
	for n := range 13 {
		var all, plain [13]int
		for list := range func(yield func(list []int) bool) { eachParting(n, yield) } {
			number := 0
			for _, mob := range list {
				number = max(number, mob+1)
			}
			all[number]++
			if isPlain(list) {
				plain[number]++
			}
		}
		for k := range n + 1 {
			if count, e := mobs.Count(n, k); count != all[k] || e != api.OK {
				t.Error(n, k, count, e)
			}
			if count, e := mobs.Plain(n, k); count != plain[k] || e != api.OK {
				t.Error(n, k, count, e)
			}
		}
	}
	for _, c := range [][4]int{{0, 0, 1, 1}, {1, 0, 0, 0}, {1, 1, 1, 1}, {4, 2, 7, 6}, {4, 0, 0, 0}, {4, 4, 1, 1}, {5, 3, 25, 20}, {12, 0, 0, 0}, {12, 1, 1, 1}, {12, 6, 1323652, 60984}, {12, 12, 1, 1}, {12, 11, 66, 66}} {
		if count, e := mobs.Count(c[0], c[1]); count != c[2] || e != api.OK {
			t.Error(c, count, e)
		}
		if count, e := mobs.Plain(c[0], c[1]); count != c[3] || e != api.OK {
			t.Error(c, count, e)
		}
	}
}

func TestP6_4Finer(t *testing.T) {
	for _, c := range []struct {
		a, b []int
		want bool
	}{
		{nil, nil, true}, {[]int{0}, []int{0}, true}, {[]int{0, 1}, []int{0, 0}, true}, {[]int{0, 0}, []int{0, 1}, false}, {[]int{0, 1, 2}, []int{0, 1, 0}, true}, {[]int{0, 1, 0}, []int{0, 1, 0}, true}, {[]int{0, 1, 0}, []int{0, 1, 1}, false}, {[]int{0, 1, 1}, []int{0, 1, 0}, false},
		{[]int{0, 1, 2, 2}, []int{0, 0, 1, 1}, true}, {[]int{0, 0, 1, 1}, []int{0, 1, 2, 2}, false}, {[]int{0, 1, 1, 0}, []int{0, 0, 1, 1}, false}, {[]int{0, 1, 2, 0}, []int{0, 1, 1, 0}, true}, {[]int{0, 1, 2, 1}, []int{0, 1, 1, 0}, false},
	} {
		if finer, e := mobs.Finer(c.a, c.b); finer != c.want || e != api.OK {
			t.Error(c, finer, e)
		}
	}
}

func TestP6_4Meet(t *testing.T) {
	for _, c := range []struct{ a, b, first, second []int }{
		{nil, nil, nil, nil}, {[]int{0}, []int{0}, []int{0}, []int{0}}, {[]int{0, 1}, []int{0, 0}, []int{0, 1}, []int{0, 0}}, {[]int{0, 0, 1, 1}, []int{0, 1, 1, 0}, []int{0, 1, 2, 3}, []int{0, 0, 0, 0}}, {[]int{0, 0, 1}, []int{0, 1, 1}, []int{0, 1, 2}, []int{0, 0, 0}},
		{[]int{0, 0, 1, 2}, []int{0, 1, 2, 2}, []int{0, 1, 2, 3}, []int{0, 0, 1, 1}}, {[]int{0, 1, 2, 2}, []int{0, 0, 1, 2}, []int{0, 1, 2, 3}, []int{0, 0, 1, 1}}, {[]int{0, 0, 0, 1, 1, 1}, []int{0, 0, 1, 1, 2, 2}, []int{0, 0, 1, 2, 3, 3}, []int{0, 0, 0, 0, 0, 0}},
		{[]int{0, 1, 2, 3, 3, 2, 1, 0}, []int{0, 1, 1, 2, 3, 4, 4, 5}, []int{0, 1, 2, 3, 4, 5, 6, 7}, []int{0, 1, 1, 2, 2, 1, 1, 0}}, {[]int{0, 1, 2, 2, 3, 3, 4, 4, 5, 5, 6, 6}, []int{0, 0, 1, 2, 2, 3, 3, 4, 4, 5, 5, 1}, []int{0, 1, 2, 3, 4, 5, 6, 7, 8, 9, 10, 11}, []int{0, 0, 1, 1, 1, 1, 1, 1, 1, 1, 1, 1}},
	} {
		if first, second, e := mobs.Meet(c.a, c.b); !slices.Equal(first, c.first) || !slices.Equal(second, c.second) || e != api.OK {
			t.Error(c, first, second, e)
		}
	}
}

// TestP6_4All takes all pairs of up to six beasts, and random ones of up to twelve.
func TestP6_4All(t *testing.T) {
	for n := range 13 {
		all, others := randomPartings(100, n), randomPartings(50, n)
		if n <= 6 {
			all, others = allPartings(n), allPartings(n)
		}
		for _, a := range all {
			for _, b := range others {
				if finer, e := mobs.Finer(a, b); finer != slowFiner(a, b) || e != api.OK {
					t.Fatal(a, b, finer, e)
				}
				wantFirst, wantSecond := slowMeet(t, a, b)
				first, second, e := mobs.Meet(a, b)
				if !slices.Equal(first, wantFirst) || !slices.Equal(second, wantSecond) || e != api.OK {
					t.Fatal(a, b, first, second, e)
				}
				if finer, e := mobs.Finer(first, b); !finer || e != api.OK {
					t.Fatal(first, b, e)
				}
			}
		}
	}
}

func TestP6_5Crossed(t *testing.T) {
	for _, c := range []struct {
		list    []int
		four    [4]int
		crossed bool
	}{
		{nil, [4]int{}, false}, {[]int{0}, [4]int{}, false}, {[]int{0, 1, 0}, [4]int{}, false}, {[]int{0, 1, 0, 1}, [4]int{0, 1, 2, 3}, true}, {[]int{0, 1, 1, 0}, [4]int{}, false}, {[]int{0, 0, 0, 0}, [4]int{}, false}, {[]int{0, 1, 0, 2, 1}, [4]int{0, 1, 2, 4}, true},
		{[]int{0, 1, 2, 0, 1, 2}, [4]int{0, 1, 3, 4}, true}, {[]int{0, 1, 2, 1, 2, 0}, [4]int{1, 2, 3, 4}, true}, {[]int{0, 1, 2, 0, 2, 1}, [4]int{0, 1, 3, 5}, true}, {[]int{0, 1, 0, 0, 1, 1}, [4]int{0, 1, 2, 4}, true}, {[]int{0, 0, 1, 0, 1}, [4]int{0, 2, 3, 4}, true},
		{[]int{0, 1, 2, 3, 4, 5, 6, 7, 8, 9, 8, 9}, [4]int{8, 9, 10, 11}, true}, {[]int{0, 1, 2, 3, 4, 5, 5, 4, 3, 2, 1, 0}, [4]int{}, false}, {[]int{0, 1, 2, 3, 4, 5, 0, 1, 2, 3, 4, 5}, [4]int{0, 1, 6, 7}, true}, {[]int{0, 1, 1, 1, 1, 1, 1, 1, 1, 1, 0, 1}, [4]int{0, 1, 10, 11}, true},
	} {
		if four, crossed, e := mobs.Crossed(c.list); four != c.four || crossed != c.crossed || e != api.OK {
			t.Error(c, four, crossed, e)
		}
	}
}

func TestP6_5All(t *testing.T) {
	for n := range 13 {
		all := slices.Concat(randomPartings(1000, n), randomPlain(300, n))
		if n <= 8 {
			all = allPartings(n)
		}
		for _, list := range all {
			want, wantCrossed := slowCrossed(list)
			if isPlain(list) == wantCrossed {
				t.Fatal("the slow ways differ:", list)
			}
			if four, crossed, e := mobs.Crossed(list); four != want || crossed != wantCrossed || e != api.OK {
				t.Fatal(list, four, crossed, want, e)
			}
		}
	}
}

func TestP6_6Between(t *testing.T) {
	for _, c := range []struct {
		list, want []int
		err        api.Errno
	}{
		{nil, nil, api.OK}, {[]int{0}, []int{0}, api.OK}, {[]int{0, 0}, []int{0, 1}, api.OK}, {[]int{0, 1}, []int{0, 0}, api.OK}, {[]int{0, 0, 1}, []int{0, 1, 1}, api.OK}, {[]int{0, 1, 1}, []int{0, 1, 0}, api.OK}, {[]int{0, 1, 0}, []int{0, 0, 1}, api.OK}, {[]int{0, 1, 2}, []int{0, 0, 0}, api.OK},
		{[]int{0, 0, 0}, []int{0, 1, 2}, api.OK}, {[]int{0, 1, 0, 1}, nil, api.ErrState}, {[]int{0, 1, 1, 0}, []int{0, 1, 0, 2}, api.OK}, {[]int{0, 0, 1, 1}, []int{0, 1, 2, 1}, api.OK}, {[]int{0, 1, 0, 2, 1}, nil, api.ErrState}, {[]int{0, 1, 2, 0, 3}, []int{0, 0, 0, 1, 1}, api.OK},
		{make([]int, 12), []int{0, 1, 2, 3, 4, 5, 6, 7, 8, 9, 10, 11}, api.OK}, {[]int{0, 1, 2, 3, 4, 5, 6, 7, 8, 9, 10, 11}, make([]int, 12), api.OK}, {[]int{0, 1, 2, 3, 4, 5, 5, 4, 3, 2, 1, 0}, []int{0, 1, 2, 3, 4, 5, 4, 3, 2, 1, 0, 6}, api.OK}, {[]int{0, 1, 2, 3, 4, 5, 6, 7, 8, 9, 8, 9}, nil, api.ErrState},
	} {
		if between, e := mobs.Between(c.list); !slices.Equal(between, c.want) || e != c.err {
			t.Error(c, between, e)
		}
	}
	for n := range 13 {
		all := slices.Concat(randomPartings(500, n), randomPlain(500, n))
		if n <= 8 {
			all = allPartings(n)
		}
		for _, list := range all {
			between, e := mobs.Between(list)
			if len(slowCrossings(list)) > 0 {
				if len(between) != 0 || e != api.ErrState {
					t.Fatal(list, between, e)
				}
			} else if !slices.Equal(between, slowBetween(t, list)) || e != api.OK {
				t.Fatal(list, between, e)
			}
		}
	}
}

func TestP6_7Around(t *testing.T) {
	for _, c := range []struct {
		list []int
		by   int
		want []int
	}{
		{nil, 0, nil}, {nil, 5, nil}, {nil, math.MinInt, nil}, {[]int{0}, 3, []int{0}}, {[]int{0}, math.MinInt, []int{0}}, {[]int{0, 0, 1}, 0, []int{0, 0, 1}}, {[]int{0, 0, 1}, 1, []int{0, 1, 0}}, {[]int{0, 0, 1}, 2, []int{0, 1, 1}}, {[]int{0, 0, 1}, 3, []int{0, 0, 1}},
		{[]int{0, 0, 1}, -1, []int{0, 1, 1}}, {[]int{0, 0, 1}, -2, []int{0, 1, 0}}, {[]int{0, 0, 1}, -3, []int{0, 0, 1}}, {[]int{0, 1, 2, 2, 1}, 1, []int{0, 1, 1, 0, 2}}, {[]int{0, 1, 2, 2, 1}, -1, []int{0, 1, 0, 2, 2}},
		{[]int{0, 0, 1}, math.MaxInt, []int{0, 1, 0}}, {[]int{0, 0, 1}, math.MinInt, []int{0, 1, 0}}, {[]int{0, 0, 1}, math.MinInt + 1, []int{0, 1, 1}}, {[]int{0, 0, 1}, math.MaxInt - 1, []int{0, 0, 1}},
	} {
		if around, e := mobs.Around(c.list, c.by); !slices.Equal(around, c.want) || e != api.OK {
			t.Error(c, around, e)
		}
	}
	for n := range 13 {
		all := randomPartings(100, n)
		if n <= 5 {
			all = allPartings(n)
		}
		for _, list := range all {
			steps := slices.Clone(wild)
			for by := -30; by <= 30; by++ {
				steps = append(steps, by)
			}
			for _, by := range steps {
				var want []int
				if n > 0 {
					want = slowAround(list, by)
				}
				if around, e := mobs.Around(list, by); !slices.Equal(around, want) || e != api.OK {
					t.Fatal(list, by, around, e)
				}
			}
		}
	}
}
