package wager_test

import (
	"math/rand/v2"
	"slices"
	"testing"

	"droveway/api"
	"droveway/wager"
)

// ok fails the test if there is an error.
func ok(t *testing.T, e api.Errno) {
	t.Helper()
	if e != api.OK {
		t.Fatal(e)
	}
}

func parts(t *testing.T, n int) []int {
	t.Helper()
	list, e := wager.Parts(n)
	ok(t, e)
	return list
}

// TestP7_8Zeckendorf makes all lists of numbers below 2584 of which no two follow one another: each sum comes once.
func TestP7_8Zeckendorf(t *testing.T) {
	numbers := slowFibonacci(2000)
	sums := map[int][]int{}
	var from func(k, sum int, list []int)
	from = func(k, sum int, list []int) {
		if k < 0 {
			if _, again := sums[sum]; again {
				t.Error(sum, list)
			}
			sums[sum] = slices.Clone(list)
			return
		}
		from(k-1, sum, list)
		from(k-2, sum+numbers[k], append(slices.Clone(list), numbers[k]))
	}
	from(len(numbers)-1, 0, nil)
	if len(sums) != 2584 {
		t.Fatal(len(sums))
	}
	for n, list := range sums {
		if !slices.Equal(parts(t, n), list) {
			t.Error(n, list, parts(t, n))
		}
	}
}

func TestP7_8Great(t *testing.T) {
	r := rand.New(rand.NewPCG(41, 42))
	numbers := slowFibonacci(most)
	for range 20000 {
		n := r.IntN(most + 1)
		sum, before := 0, len(numbers)+1
		for _, number := range parts(t, n) {
			k, is := slices.BinarySearch(numbers, number)
			if !is || k > before-2 {
				t.Fatal(n, parts(t, n))
			}
			before = k
			sum += number
		}
		if sum != n {
			t.Fatal(n, parts(t, n))
		}
	}
}

// TestP7_9Whinihan looks at heaps up to the greatest, and at limits around the tail.
func TestP7_9Whinihan(t *testing.T) {
	r := rand.New(rand.NewPCG(43, 44))
	heaps := slowFibonacci(most)
	for i := range 4000 {
		heaps = append(heaps, i, most-i, r.IntN(most))
	}
	for _, heap := range heaps {
		list := parts(t, heap)
		if heap == 0 {
			if _, e := wager.Nim(heap, most); e != api.ErrPlan {
				t.Error(e)
			}
			continue
		}
		tail := list[len(list)-1]
		for _, limit := range []int{tail, tail + 1, 2 * tail, heap, most} {
			if got, e := wager.Nim(heap, limit); limit <= most && (got != tail || e != api.OK) {
				t.Error(heap, limit, got, e)
			}
		}
		for _, limit := range []int{tail - 1, tail / 2, 0} {
			if _, e := wager.Nim(heap, limit); e != api.ErrPlan {
				t.Error(heap, limit, e)
			}
		}
		if heap-tail > 0 {
			// After it, the other one cannot win.
			if _, e := wager.Nim(heap-tail, 2*tail); e != api.ErrPlan {
				t.Error(heap, e)
			}
		}
		if heap < 2 {
			continue
		}
		if got, e := wager.Whole(heap); (e == api.ErrPlan) != (len(list) == 1) || e == api.OK && got != tail || e != api.OK && e != api.ErrPlan {
			t.Error(heap, got, e)
		}
	}
}

// TestP7_10ColeAndDavie looks at all small heaps, and at great ones around the golden ratio.
func TestP7_10ColeAndDavie(t *testing.T) {
	check := func(a, b int) {
		_, _, e := wager.Euclid(a, b)
		steps, f := wager.Steps(a, b)
		ok(t, f)
		ahead := 0
		for ahead < len(steps)-1 && steps[ahead] == 1 {
			ahead++
		}
		if (e == api.OK) != slowGolden(a, b) || (e == api.OK) != (ahead%2 == 0) || e != api.OK && e != api.ErrPlan {
			t.Fatal(a, b, e, steps)
		}
	}
	for a := 1; a <= 150; a++ {
		for b := 1; b <= 150; b++ {
			check(a, b)
		}
	}
	r := rand.New(rand.NewPCG(45, 46))
	const golden = 1.6180339887498949
	for range 20000 {
		b := 1 + r.IntN(most*5/8)
		a := min(int(float64(b)*golden)+r.IntN(5)-2, most)
		check(max(a, 1), b)
		check(b, max(a, 1))
		check(1+r.IntN(most), 1+r.IntN(most))
		check(b, b)
	}
	numbers := slowFibonacci(most)
	for k := 1; k < len(numbers); k++ {
		check(numbers[k], numbers[k-1])
		check(numbers[k-1], numbers[k])
	}
}

func TestP7_11Chomp(t *testing.T) {
	for rows := 1; rows <= 6; rows++ {
		for columns := 1; columns <= 7; columns++ {
			if rows*columns == 1 {
				continue
			}
			pieces, e := wager.Chomp(slices.Repeat([]int{columns}, rows))
			ok(t, e)
			if len(pieces) == 0 {
				t.Error(rows, columns)
			}
			if rows*columns > 24 {
				continue
			}
			row, column, e := wager.First(rows, columns)
			ok(t, e)
			first := [2]int{row, column}
			if first != pieces[0] || rows == columns && first != [2]int{1, 1} || rows == 2 && first != [2]int{1, columns - 1} {
				t.Error(rows, columns, first, pieces)
			}
		}
	}
	for upper := 1; upper <= 7; upper++ {
		for lower := range upper + 1 {
			_, e := wager.Chomp([]int{upper, lower})
			if (e == api.ErrPlan) != (upper == lower+1) {
				t.Error(upper, lower, e)
			}
		}
	}
}

// TestP7_12Lost plays on from each bar.
func TestP7_12Lost(t *testing.T) {
	for rows := 1; rows <= 6; rows++ {
		for columns := 1; columns <= 7 && rows*columns <= 24; columns++ {
			lost, e := wager.Lost(rows, columns)
			ok(t, e)
			if !slices.IsSortedFunc(lost, slices.Compare) {
				t.Error(rows, columns)
			}
			has := func(bar []int) bool {
				_, is := slices.BinarySearchFunc(lost, bar, slices.Compare)
				return is
			}
			for bar := range func(yield func([]int) bool) { eachBar(rows, columns, yield) } {
				leads := false
				for _, piece := range slowPieces(bar) {
					after, e := wager.Bitten(bar, piece[0], piece[1])
					ok(t, e)
					leads = leads || has(after)
				}
				if bar[0] > 0 && leads == has(bar) || bar[0] == 0 && has(bar) {
					t.Error(rows, columns, bar)
				}
			}
		}
	}
}

func TestP7_13Grundy(t *testing.T) {
	for heap := range 201 {
		step := 1
		if heap > 60 {
			step = 7
		}
		for limit := 0; limit <= heap+7; limit += step {
			number, e := wager.Grundy(heap, limit)
			ok(t, e)
			if _, e := wager.Nim(heap, limit); (number == 0) != (e == api.ErrPlan) {
				t.Error(heap, limit, number, e)
			}
		}
		number, e := wager.Grundy(heap, most)
		ok(t, e)
		if (number == 0) != (heap == 0) {
			t.Error(heap, number)
		}
	}
}
