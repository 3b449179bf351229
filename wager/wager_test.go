package wager_test

import (
	"math"
	"math/rand/v2"
	"reflect"
	"slices"
	"testing"

	"droveway/api"
	"droveway/wager"
)

// asked is what all functions together can be asked for: a and b are heaps, or a heap and a limit, or a size of a bar.
type asked struct {
	a, b        int
	bar         []int
	row, column int
}

// results calls all functions, and returns their errors; with an error, nothing else may be returned.
func results(t *testing.T, q asked) []api.Errno {
	t.Helper()
	parts, e0 := wager.Parts(q.a)
	nim, e1 := wager.Nim(q.a, q.b)
	whole, e2 := wager.Whole(q.a)
	a, b, e3 := wager.Euclid(q.a, q.b)
	steps, e4 := wager.Steps(q.a, q.b)
	pieces, e5 := wager.Chomp(q.bar)
	bitten, e6 := wager.Bitten(q.bar, q.row, q.column)
	lost, e7 := wager.Lost(q.a, q.b)
	grundy, e8 := wager.Grundy(q.a, q.b)
	row, column, e9 := wager.First(q.a, q.b)
	if e0 != api.OK && len(parts) != 0 || e1 != api.OK && nim != 0 || e2 != api.OK && whole != 0 || e3 != api.OK && (a != 0 || b != 0) || e4 != api.OK && len(steps) != 0 ||
		e5 != api.OK && len(pieces) != 0 || e6 != api.OK && len(bitten) != 0 || e7 != api.OK && len(lost) != 0 || e8 != api.OK && grundy != 0 || e9 != api.OK && (row != 0 || column != 0) {
		t.Error("results with an error", q)
	}
	return []api.Errno{e0, e1, e2, e3, e4, e5, e6, e7, e8, e9}
}

// wantErrors goes by the words of the chapter, and by its theorems where all moves would be too many.
func wantErrors(q asked) []api.Errno {
	want := make([]api.Errno, 10)
	refuse := func(errno api.Errno, refused bool, functions ...int) {
		for _, f := range functions {
			if refused && want[f] == api.OK {
				want[f] = errno
			}
		}
	}
	refuse(api.ErrArg, !isHeap(q.a), 0, 1, 2, 3, 4)
	refuse(api.ErrArg, q.a < 2, 2)
	refuse(api.ErrArg, !isHeap(q.b), 1, 3, 4, 8)
	refuse(api.ErrArg, q.a < 0 || q.a > 200, 8)
	if want[1] == api.OK {
		refuse(api.ErrPlan, !slowTailFits(q.a, q.b), 1)
	}
	if want[2] == api.OK {
		refuse(api.ErrPlan, slices.Contains(slowFibonacci(most), q.a), 2)
	}
	if want[3] == api.OK {
		refuse(api.ErrPlan, q.a == 0 || q.b == 0 || !slowGolden(q.a, q.b), 3)
	}
	refuse(slowBarError(q.bar), true, 5, 6)
	if want[5] == api.OK {
		refuse(api.ErrPlan, len(slowBars.winning(q.bar)) == 0, 5)
	}
	if want[6] == api.OK {
		refuse(api.ErrNone, !slices.Contains(slowPieces(q.bar), [2]int{q.row, q.column}), 6)
	}
	refuse(slowSizeError(q.a, q.b), true, 7, 9)
	refuse(api.ErrPlan, q.a == 1 && q.b == 1, 9)
	return want
}

// slowBars is kept for all tests of this package, which run one after the other.
var slowBars = slowChomp{}

// slowTailFits reports whether the heap has a tail that is at most the limit.
func slowTailFits(heap, limit int) bool {
	tail := 0
	for heap > 0 {
		numbers := slowFibonacci(heap)
		tail = numbers[len(numbers)-1]
		heap -= tail
	}
	return tail > 0 && tail <= limit
}

func checkErrors(t *testing.T, q asked) {
	t.Helper()
	if got, want := results(t, q), wantErrors(q); !slices.Equal(got, want) {
		t.Errorf("%+v: %v, not %v", q, got, want)
	}
}

func TestNotHeaps(t *testing.T) {
	numbers := append([]int{0, 1, 2, 3, 5, 6, 7, 8, 199, 200, 201}, wild...)
	for _, a := range numbers {
		for _, b := range numbers {
			checkErrors(t, asked{a: a, b: b})
		}
	}
	for _, n := range []int{-1, most + 1, math.MinInt, math.MaxInt} {
		for _, good := range []int{0, 1, 5, most} {
			for _, errs := range [][]api.Errno{results(t, asked{a: n, b: good}), results(t, asked{a: good, b: n})} {
				for _, f := range []int{1, 3, 4, 7, 8, 9} {
					if errs[f] != api.ErrArg {
						t.Error(n, good, f, errs)
					}
				}
			}
			if errs := results(t, asked{a: n, b: good}); errs[0] != api.ErrArg || errs[2] != api.ErrArg {
				t.Error(n, good, errs)
			}
		}
	}
	for _, n := range []int{0, 1} {
		if errs := results(t, asked{a: n}); errs[0] != api.OK || errs[2] != api.ErrArg {
			t.Error(n, errs)
		}
	}
}

func TestNotSizes(t *testing.T) {
	for rows := -1; rows <= 8; rows++ {
		for columns := -1; columns <= 9; columns++ {
			checkErrors(t, asked{a: rows, b: columns})
		}
	}
	for _, size := range [][2]int{{4, 7}, {5, 5}, {6, 5}, {6, 7}} {
		if errs := results(t, asked{a: size[0], b: size[1]}); errs[7] != api.ErrFull || errs[9] != api.ErrFull {
			t.Error(size, errs)
		}
	}
	for _, size := range [][2]int{{7, 7}, {6, 8}, {7, 1}, {1, 8}, {0, 8}, {7, 0}} {
		if errs := results(t, asked{a: size[0], b: size[1]}); errs[7] != api.ErrArg || errs[9] != api.ErrArg {
			t.Error(size, errs)
		}
	}
	for _, size := range [][2]int{{4, 6}, {6, 4}, {3, 7}, {1, 7}, {6, 1}, {1, 2}} {
		if errs := results(t, asked{a: size[0], b: size[1]}); errs[7] != api.OK || errs[9] != api.OK {
			t.Error(size, errs)
		}
	}
	if errs := results(t, asked{a: 1, b: 1}); errs[7] != api.OK || errs[9] != api.ErrPlan {
		t.Error(errs)
	}
}

func TestNotBars(t *testing.T) {
	for _, bar := range notBars {
		for _, piece := range [][2]int{{0, 0}, {-1, 0}, {0, 8}, {6, 0}} {
			errs := results(t, asked{bar: bar, row: piece[0], column: piece[1]})
			if errs[5] != api.ErrArg || errs[6] != api.ErrArg {
				t.Error(bar, piece, errs)
			}
		}
	}
}

func TestNotPieces(t *testing.T) {
	for _, bar := range [][]int{{0}, {1}, {7}, {0, 0}, {3, 1}, {2, 2, 0}, {7, 7, 7, 7, 7, 7}, {7, 6, 5, 4, 3, 2}, {0, 0, 0, 0, 0, 0}} {
		for _, row := range append([]int{0, 1, 2, 3, 4, 5, 6, 7}, wild...) {
			for _, column := range append([]int{0, 1, 2, 3, 4, 5, 6, 7, 8}, wild...) {
				want := api.ErrNone
				if slices.Contains(slowPieces(bar), [2]int{row, column}) {
					want = api.OK
				}
				if got, e := wager.Bitten(bar, row, column); e != want || e != api.OK && len(got) != 0 {
					t.Error(bar, row, column, got, e)
				}
			}
		}
	}
}

// TestP1Any calls the functions with anything: none of them panics, and what the chapter refuses is refused.
func TestP1Any(t *testing.T) {
	r := rand.New(rand.NewPCG(31, 32))
	// some is in range more often than not.
	some := func(n int) int {
		if r.IntN(20) == 0 {
			return wild[r.IntN(len(wild))]
		}
		return r.IntN(n)
	}
	limits := []int{3, 8, 210, 1000, most}
	for range 30000 {
		q := asked{a: some(limits[r.IntN(5)]), b: some(limits[r.IntN(5)]), row: some(8), column: some(9)}
		if r.IntN(10) == 0 {
			q.bar = notBars[r.IntN(len(notBars))]
		} else {
			for range r.IntN(8) {
				q.bar = append(q.bar, some(9))
			}
			if r.IntN(8) > 0 {
				slices.SortFunc(q.bar, func(a, b int) int { return b - a })
			}
		}
		checkErrors(t, q)
	}
}

// TestP2Same calls each function twice with the same: it changes nothing, keeps nothing, and returns the same in new memory.
func TestP2Same(t *testing.T) {
	room := []int{4, 3, 1, -5, -6}
	bar := room[:3:5]
	want := slices.Clone(room)
	twice(t, func() any { list, _ := wager.Parts(1000003); return list })
	twice(t, func() any { list, _ := wager.Steps(1000003, 777); return list })
	twice(t, func() any { list, _ := wager.Bitten(bar, 1, 1); return list })
	twice(t, func() any { list, _ := wager.Chomp([]int{7, 7, 3, 3, 1}); return list })
	twice(t, func() any { list, _ := wager.Chomp(bar); return list })
	twice(t, func() any { list, _ := wager.Lost(4, 5); return list })
	if !slices.Equal(room, want) {
		t.Error(room)
	}
	bitten, e := wager.Bitten(bar, 0, 3)
	if e != api.OK || !slices.Equal(bitten, []int{3, 3, 1}) {
		t.Fatal(bitten, e)
	}
	bitten[0] = 7
	if !slices.Equal(room, want) {
		t.Error(room)
	}
	lost, e := wager.Lost(3, 3)
	if e != api.OK || len(lost) < 2 {
		t.Fatal(lost, e)
	}
	second := slices.Clone(lost[1])
	_ = append(lost[0], 9, 9, 9)
	if !slices.Equal(lost[1], second) {
		t.Error(lost)
	}
}

// twice calls a function, changes all that it returned, and calls it again.
func twice(t *testing.T, call func() any) {
	t.Helper()
	first, second := call(), call()
	if !reflect.DeepEqual(first, second) || reflect.ValueOf(first).Len() == 0 {
		t.Error(first, second)
	}
	switch list := first.(type) {
	case []int:
		clear(list[:cap(list)])
	case [][2]int:
		clear(list[:cap(list)])
	case [][]int:
		for _, inner := range list {
			clear(inner[:cap(inner)])
		}
		clear(list[:cap(list)])
	default:
		t.Fatalf("%T", first)
	}
	if third := call(); !reflect.DeepEqual(third, second) {
		t.Error(second, third)
	}
}

func TestExamples(t *testing.T) {
	if list, e := wager.Parts(11); e != api.OK || !slices.Equal(list, []int{8, 3}) {
		t.Error(list, e)
	}
	for _, c := range []struct {
		heap, limit, want int
		err               api.Errno
	}{{11, 10, 3, api.OK}, {11, 2, 0, api.ErrPlan}, {11, 3, 3, api.OK}, {0, 5, 0, api.ErrPlan}, {5, 0, 0, api.ErrPlan}, {5, 5, 5, api.OK}, {5, 4, 0, api.ErrPlan}, {6, 1, 1, api.OK}, {most, most, 2, api.OK}, {most, 1, 0, api.ErrPlan}} {
		if got, e := wager.Nim(c.heap, c.limit); got != c.want || e != c.err {
			t.Error(c, got, e)
		}
	}
	for n, want := range map[int]int{2: 0, 3: 0, 4: 1, 5: 0, 6: 1, 7: 2, 8: 0, 9: 1, 10: 2, 11: 3, 12: 1, 13: 0} {
		err := api.OK
		if want == 0 {
			err = api.ErrPlan
		}
		if got, e := wager.Whole(n); got != want || e != err {
			t.Error(n, got, e)
		}
	}
	if a, b, e := wager.Euclid(7, 2); a != 3 || b != 2 || e != api.OK {
		t.Error(a, b, e)
	}
	if a, b, e := wager.Euclid(2, 7); a != 2 || b != 3 || e != api.OK {
		t.Error(a, b, e)
	}
	if a, b, e := wager.Euclid(4, 4); a != 4 || b != 0 || e != api.OK {
		t.Error(a, b, e)
	}
	if a, b, e := wager.Euclid(3, 2); a != 0 || b != 0 || e != api.ErrPlan {
		t.Error(a, b, e)
	}
	for _, c := range [][3][]int{{{7, 2}, {3, 2}}, {{3, 2}, {1, 2}}, {{2, 3}, {1, 2}}, {{5, 5}, {1}}, {{0, 5}, nil}, {{5, 0}, nil}, {{0, 0}, nil}, {{6, 3}, {2}}, {{most, 1}, {most}}} {
		if list, e := wager.Steps(c[0][0], c[0][1]); e != api.OK || !slices.Equal(list, c[1]) {
			t.Error(c, list, e)
		}
	}
	if list, e := wager.Chomp([]int{2, 2}); e != api.OK || !slices.Equal(list, [][2]int{{1, 1}}) {
		t.Error(list, e)
	}
	if list, e := wager.Lost(2, 3); e != api.OK || !reflect.DeepEqual(list, [][]int{{1, 0}, {2, 1}, {3, 2}}) {
		t.Error(list, e)
	}
	if list, e := wager.Bitten([]int{7, 6, 5}, 1, 2); e != api.OK || !slices.Equal(list, []int{7, 2, 2}) {
		t.Error(list, e)
	}
	if list, e := wager.Bitten([]int{3, 3}, 0, 0); e != api.OK || !slices.Equal(list, []int{0, 0}) {
		t.Error(list, e)
	}
	if list, e := wager.Bitten([]int{3, 3, 0, 0}, 1, 2); e != api.OK || !slices.Equal(list, []int{3, 2, 0, 0}) {
		t.Error(list, e)
	}
}

// TestP7_1Parts looks at all small numbers, and at some up to the greatest.
func TestP7_1Parts(t *testing.T) {
	if list, e := wager.Parts(0); len(list) != 0 || e != api.OK {
		t.Error(list, e)
	}
	r := rand.New(rand.NewPCG(33, 34))
	numbers := []int{most, most - 1}
	for n := range 3000 {
		numbers = append(numbers, n, most-n, r.IntN(most))
	}
	for _, number := range slowFibonacci(most) {
		numbers = append(numbers, number, number-1, min(number+1, most))
	}
	for _, n := range numbers {
		var want []int
		for rest := n; rest > 0; rest -= want[len(want)-1] {
			fits := slowFibonacci(rest)
			want = append(want, fits[len(fits)-1])
		}
		if list, e := wager.Parts(n); e != api.OK || !slices.Equal(list, want) {
			t.Error(n, list, want, e)
		}
	}
}

// TestP7_2Nim tries all moves of all heaps of up to 120 matches.
func TestP7_2Nim(t *testing.T) {
	known := slowNim{}
	for heap := range 121 {
		for limit := range heap + 4 {
			want := known.least(heap, limit)
			got, e := wager.Nim(heap, limit)
			if got != want || (e == api.ErrPlan) != (want == 0) || e != api.OK && e != api.ErrPlan {
				t.Error(heap, limit, got, e, want)
			}
		}
		want := known.least(heap, heap)
		for _, limit := range []int{1 << 20, 1 << 32, most} {
			if got, _ := wager.Nim(heap, limit); got != want {
				t.Error(heap, limit, got, want)
			}
		}
		if heap >= 2 {
			want := known.least(heap, heap-1)
			got, e := wager.Whole(heap)
			if got != want || (e == api.ErrPlan) != (want == 0) || e != api.OK && e != api.ErrPlan {
				t.Error(heap, got, e, want)
			}
		}
	}
}

// TestP7_3Euclid tries all moves of all heaps of up to 90.
func TestP7_3Euclid(t *testing.T) {
	known := slowEuclid{}
	for a := range 91 {
		for b := range 91 {
			want, wins := known.best(a, b)
			x, y, e := wager.Euclid(a, b)
			if [2]int{x, y} != want || wins && e != api.OK || !wins && e != api.ErrPlan {
				t.Error(a, b, x, y, e, want)
			}
		}
	}
}

// TestP7_3Great looks at great heaps: the move is one of the two that take most, it leaves heaps from which nobody wins, and
// none that takes less does so.
func TestP7_3Great(t *testing.T) {
	r := rand.New(rand.NewPCG(35, 36))
	numbers := slowFibonacci(most)
	for i := range 20000 {
		a, b := r.IntN(most)+1, r.IntN(1<<(1+i%40))+1
		if i%7 == 0 {
			k := 1 + r.IntN(len(numbers)-1)
			a, b = numbers[k], numbers[k-1]
		}
		x, y, e := wager.Euclid(a, b)
		if slowGolden(a, b) != (e == api.OK) {
			t.Fatal(a, b, e)
		}
		u, v, f := wager.Euclid(b, a)
		if u != y || v != x || e != f {
			t.Fatal(a, b, x, y, u, v)
		}
		if e != api.OK {
			continue
		}
		greater, lesser, left := max(a, b), min(a, b), x
		if a < b {
			left = y
		}
		if x+y-left != lesser || left >= greater || (greater-left)%lesser != 0 || left < 0 {
			t.Fatal(a, b, x, y)
		}
		if left != 0 && slowGolden(x, y) {
			t.Fatal(a, b, x, y)
		}
		if less := left + lesser; less < greater && !slowGolden(less, lesser) {
			t.Fatal(a, b, x, y)
		}
	}
}

// TestP7_3Steps counts how often the lesser heap can be taken from the greater one.
func TestP7_3Steps(t *testing.T) {
	for a := range 120 {
		for b := range 120 {
			var want []int
			for x, y := max(a, b), min(a, b); y > 0; x, y = max(x, y), min(x, y) {
				times := 0
				for x >= y {
					x -= y
					times++
				}
				want = append(want, times)
			}
			if list, e := wager.Steps(a, b); e != api.OK || !slices.Equal(list, want) {
				t.Error(a, b, list, want, e)
			}
		}
	}
	numbers := slowFibonacci(most)
	for k := 1; k < len(numbers); k++ {
		want := append(slices.Repeat([]int{1}, k-1), 2)
		for _, swapped := range []bool{false, true} {
			a, b := numbers[k], numbers[k-1]
			if swapped {
				a, b = b, a
			}
			if list, e := wager.Steps(a, b); e != api.OK || !slices.Equal(list, want) {
				t.Error(a, b, list, e)
			}
		}
	}
}

// TestP7_4Bitten takes each piece of each bar.
func TestP7_4Bitten(t *testing.T) {
	for rows := 1; rows <= 6; rows++ {
		for bar := range func(yield func([]int) bool) { eachBar(rows, min(7, 12-rows), yield) } {
			for _, piece := range slowPieces(bar) {
				want := slowBitten(bar, piece[0], piece[1])
				if got, e := wager.Bitten(bar, piece[0], piece[1]); e != api.OK || !slices.Equal(got, want) {
					t.Fatal(bar, piece, got, want, e)
				}
			}
		}
	}
}

// TestP7_4Chomp looks at all bars of up to four rows, and at some longer ones.
func TestP7_4Chomp(t *testing.T) {
	r := rand.New(rand.NewPCG(37, 38))
	for rows := 1; rows <= 6; rows++ {
		for bar := range func(yield func([]int) bool) { eachBar(rows, 7, yield) } {
			if rows > 4 && r.IntN(8) > 0 {
				continue
			}
			want := slowBars.winning(bar)
			got, e := wager.Chomp(bar)
			if !slices.Equal(got, want) || (e == api.ErrPlan) != (len(want) == 0) || e != api.OK && e != api.ErrPlan {
				t.Fatal(bar, got, want, e)
			}
		}
	}
	full := []int{7, 7, 7, 7, 7, 7}
	if got, e := wager.Chomp(full); e != api.OK || !slices.Equal(got, slowBars.winning(full)) {
		t.Error(got, e)
	}
}

func TestP7_5Lost(t *testing.T) {
	for rows := 1; rows <= 6; rows++ {
		for columns := 1; columns <= 7 && rows*columns <= 24; columns++ {
			var want [][]int
			for bar := range func(yield func([]int) bool) { eachBar(rows, columns, yield) } {
				if bar[0] > 0 && !slowBars.wins(bar) {
					want = append(want, bar)
				}
			}
			if got, e := wager.Lost(rows, columns); e != api.OK || !reflect.DeepEqual(got, want) {
				t.Error(rows, columns, got, want, e)
			}
		}
	}
	if got, e := wager.Lost(1, 1); e != api.OK || !reflect.DeepEqual(got, [][]int{{1}}) {
		t.Error(got, e)
	}
}

// TestP7_6Grundy tries all moves of all heaps of up to 90 matches, and of those of 199 and 200 with some limits.
func TestP7_6Grundy(t *testing.T) {
	known := slowGrundy{}
	for heap := range 91 {
		for limit := range heap + 3 {
			want := known.of(heap, limit)
			if got, e := wager.Grundy(heap, limit); got != want || e != api.OK {
				t.Error(heap, limit, got, want, e)
			}
		}
	}
	for heap := 190; heap <= 200; heap++ {
		for _, limit := range []int{0, 1, 2, 3, 50, 99, 100, 101, 198, 199, 200, 201, 1 << 32, most} {
			want := known.of(heap, limit)
			if got, e := wager.Grundy(heap, limit); got != want || e != api.OK {
				t.Error(heap, limit, got, want, e)
			}
		}
	}
}

func TestP7_7First(t *testing.T) {
	for rows := 1; rows <= 6; rows++ {
		for columns := 1; columns <= 7 && rows*columns <= 24; columns++ {
			row, column, e := wager.First(rows, columns)
			pieces := slowBars.winning(slices.Repeat([]int{columns}, rows))
			if rows*columns == 1 {
				if row != 0 || column != 0 || e != api.ErrPlan {
					t.Error(row, column, e)
				}
				continue
			}
			if e != api.OK || [2]int{row, column} != pieces[0] {
				t.Error(rows, columns, row, column, pieces, e)
			}
		}
	}
}
