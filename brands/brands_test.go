package brands_test

import (
	"math"
	"math/rand/v2"
	"slices"
	"testing"

	"droveway/api"
	"droveway/brands"
)

// wild are numbers that are in range, just out of it, and far away.
var wild = []int{math.MinInt, math.MinInt + 1, -1 << 62, -1 << 32, -12, -1, 0, 1, 2, 3, 4, 5, 11, 12, 13, 1<<32 + 1, 1 << 62, math.MaxInt - 1, math.MaxInt}

// lineErrors calls all functions that ask for a brand, and returns their errors; with an error, nothing else may be returned.
func lineErrors(t *testing.T, b made, i, k int) []api.Errno {
	t.Helper()
	l1, e1 := brands.Triangles(b.n, b.lines)
	l2, e2 := brands.Round(b.n, b.lines)
	ways, e3 := brands.Choices(b.n, b.lines, i, k)
	l4, e4 := brands.Flip(b.n, b.lines, i)
	if e1 != api.OK && len(l1) != 0 || e2 != api.OK && len(l2) != 0 || e3 != api.OK && ways != 0 || e4 != api.OK && len(l4) != 0 {
		t.Error("results with an error", b, i, k)
	}
	return []api.Errno{e1, e2, e3, e4}
}

// roundErrors does so with all functions that ask for a round list.
func roundErrors(t *testing.T, round []int, i, k int) []api.Errno {
	t.Helper()
	l1, e1 := brands.Of(round)
	number, e2 := brands.Between(round, i, k)
	l3, e3 := brands.Frieze(round)
	ok, e4 := brands.Closed(round)
	l5, e5 := brands.Cut(round, i)
	l6, e6 := brands.Glue(round, i)
	if e1 != api.OK && len(l1) != 0 || e2 != api.OK && number != 0 || e3 != api.OK && len(l3) != 0 || e4 != api.OK && ok ||
		e5 != api.OK && len(l5) != 0 || e6 != api.OK && len(l6) != 0 {
		t.Error("results with an error", round, i, k)
	}
	return []api.Errno{e1, e2, e3, e4, e5, e6}
}

func TestIsBrand(t *testing.T) {
	for _, b := range append(greatBrands(7), tri, square, five, fan, zigzag, star) {
		if !brands.IsBrand(b.n, b.lines) {
			t.Error("no brand:", b)
		}
	}
	if !brands.IsBrand(3, []api.Pair{}) {
		t.Error("no brand: an empty list")
	}
	for _, b := range notBrands {
		if brands.IsBrand(b.n, b.lines) {
			t.Error("a brand:", b)
		}
	}
}

// TestIsBrandAll looks at all lists of up to three pairs of small numbers.
func TestIsBrandAll(t *testing.T) {
	var look func(n int, list []api.Pair)
	look = func(n int, list []api.Pair) {
		if got, want := brands.IsBrand(n, list), slowIsBrand(n, list); got != want {
			t.Fatal(n, list, got, want)
		}
		if len(list) == n-3 {
			return
		}
		for a := -1; a <= n; a++ {
			for b := -1; b <= n; b++ {
				look(n, append(slices.Clone(list), api.Pair{A: a, B: b}))
			}
		}
	}
	for n := 3; n <= 6; n++ {
		look(n, nil)
	}
}

// TestIsBrandChanged changes one number of a brand, or its order.
func TestIsBrandChanged(t *testing.T) {
	for _, b := range greatBrands(401) {
		for i := range b.lines {
			for c := -1; c <= b.n; c++ {
				first, second := slices.Clone(b.lines), slices.Clone(b.lines)
				first[i].A, second[i].B = c, c
				for _, l := range [][]api.Pair{first, second} {
					if got, want := brands.IsBrand(b.n, l), slowIsBrand(b.n, l); got != want {
						t.Fatal(b.n, l, got, want)
					}
				}
			}
			if i > 0 {
				l := slices.Clone(b.lines)
				l[i-1], l[i] = l[i], l[i-1]
				if brands.IsBrand(b.n, l) {
					t.Error("not in order:", b.n, l)
				}
			}
		}
	}
}

// TestNotBrands: that there is no brand comes before any other error.
func TestNotBrands(t *testing.T) {
	for _, b := range notBrands {
		for _, i := range []int{0, 1, -1, 99} {
			for f, e := range lineErrors(t, b, i, i+1) {
				if e != api.ErrArg {
					t.Error(b, "function", f, e)
				}
			}
		}
	}
}

func TestNotRounds(t *testing.T) {
	for _, round := range notRounds {
		for _, i := range []int{0, 1, -1, 99} {
			for f, e := range roundErrors(t, round, i, i+1) {
				if e != api.ErrArg {
					t.Error(round, "function", f, e)
				}
			}
		}
	}
}

// TestP1Any calls the functions with any numbers: none of them panics, and what is out of range is refused.
func TestP1Any(t *testing.T) {
	r := rand.New(rand.NewPCG(3, 4))
	any := func() int { return wild[r.IntN(len(wild))] }
	for range 20000 {
		b := made{n: any()}
		for range r.IntN(4) {
			b.lines = append(b.lines, api.Pair{A: any(), B: any()})
		}
		ok := slowIsBrand(b.n, b.lines)
		if errs := lineErrors(t, b, any(), any()); brands.IsBrand(b.n, b.lines) != ok || (errs[0] == api.OK) != ok || (errs[1] == api.OK) != ok {
			t.Error(b, ok, errs)
		}
		var round []int
		for range r.IntN(15) {
			round = append(round, any())
		}
		roundErrors(t, round, any(), any())
		n, i, k := any(), any(), any()
		if _, e := brands.Count(n); (e == api.OK) != (3 <= n && n <= 12) {
			t.Error(n, e)
		}
		lineErrors(t, star, i, k)
		roundErrors(t, []int{1, 3, 1, 2, 2}, i, k)
	}
}

// spare returns the list with room behind it, and the whole of its memory.
func spare[E any](list []E) ([]E, []E) {
	whole := make([]E, len(list)+4)
	copy(whole, list)
	return whole[:len(list)], whole
}

// TestP2SameLines calls functions twice, and changes what the first call returned: nothing is kept or shared, and no
// argument is changed, not even the memory behind it.
func TestP2SameLines(t *testing.T) {
	for _, b := range append(greatBrands(997), fan, zigzag) {
		list, whole := spare(b.lines)
		before := slices.Clone(whole)
		first, e := brands.Triangles(b.n, list)
		kept := slices.Clone(first)
		clear(first)
		if second, f := brands.Triangles(b.n, list); !slices.Equal(second, kept) || e != api.OK || f != api.OK {
			t.Error(b, kept, second)
		}
		round, e := brands.Round(b.n, list)
		was := slices.Clone(round)
		clear(round)
		if again, f := brands.Round(b.n, list); !slices.Equal(again, was) || e != api.OK || f != api.OK {
			t.Error(b, was, again)
		}
		for i := range list {
			flipped, e := brands.Flip(b.n, list, i)
			was := slices.Clone(flipped)
			clear(flipped)
			if again, f := brands.Flip(b.n, list, i); !slices.Equal(again, was) || e != api.OK || f != api.OK {
				t.Error(b, was, again)
			}
		}
		brands.Choices(b.n, list, 0, b.n/2)
		if !slices.Equal(whole, before) {
			t.Error("changed:", before, whole)
		}
	}
}

func TestP2SameRounds(t *testing.T) {
	lists := append(randomRounds(200), []int{1, 1, 1}, []int{2, 1, 2, 1}, []int{1, 3, 1, 3, 1, 3})
	for _, b := range greatBrands(997) {
		lists = append(lists, slowRound(b))
	}
	for _, l := range lists {
		round, whole := spare(l)
		before := slices.Clone(whole)
		first, e := brands.Of(round)
		kept := slices.Clone(first)
		clear(first)
		if second, f := brands.Of(round); !slices.Equal(second, kept) || e != f {
			t.Error(round, kept, second, e, f)
		}
		for i := range round {
			for _, f := range []func([]int, int) ([]int, api.Errno){brands.Cut, brands.Glue} {
				first, e := f(round, i)
				kept := slices.Clone(first)
				clear(first)
				if second, f := f(round, i); !slices.Equal(second, kept) || e != f {
					t.Error(round, i, kept, second, e, f)
				}
			}
		}
		brands.Between(round, 0, len(round))
		brands.Closed(round)
		brands.Frieze(round)
		if !slices.Equal(whole, before) {
			t.Error("changed:", before, whole)
		}
	}
}

// TestP2FriezeRows: no row of a table shares memory with another one, not even behind its end.
func TestP2FriezeRows(t *testing.T) {
	round := []int{1, 3, 1, 2, 2}
	want, _ := brands.Frieze(round)
	table, _ := brands.Frieze(round)
	for i := range table {
		clear(append(table[i], 7, 7, 7, 7, 7))
		for k, row := range table[i+1:] {
			if !slices.Equal(row, want[i+1+k]) {
				t.Error(i, k, row)
			}
		}
	}
	if again, _ := brands.Frieze(round); !slices.EqualFunc(again, want, slices.Equal) {
		t.Error(again)
	}
}

func TestP2_1Triangles(t *testing.T) {
	for _, c := range []struct {
		made
		want [][3]int
	}{
		{tri, [][3]int{{0, 1, 2}}},
		{square, [][3]int{{0, 1, 2}, {0, 2, 3}}},
		{made{4, lines(1, 3)}, [][3]int{{0, 1, 3}, {1, 2, 3}}},
		{five, [][3]int{{0, 1, 4}, {1, 2, 3}, {1, 3, 4}}},
		{star, [][3]int{{0, 1, 2}, {0, 2, 4}, {0, 4, 5}, {2, 3, 4}}},
		{fan, [][3]int{{0, 1, 2}, {0, 2, 3}, {0, 3, 4}, {0, 4, 5}, {0, 5, 6}, {0, 6, 7}}},
	} {
		if l, e := brands.Triangles(c.n, c.lines); !slices.Equal(l, c.want) || e != api.OK {
			t.Error(c, l, e)
		}
	}
	for _, b := range greatBrands(19) {
		if l, e := brands.Triangles(b.n, b.lines); !slices.Equal(l, trianglesOf(b)) || e != api.OK {
			t.Error(b, l, e)
		}
	}
}

func TestP2_1Round(t *testing.T) {
	for _, c := range []struct {
		made
		want []int
	}{
		{tri, []int{1, 1, 1}}, {square, []int{2, 1, 2, 1}}, {five, []int{1, 3, 1, 2, 2}}, {star, []int{3, 1, 3, 1, 3, 1}},
		{fan, []int{6, 1, 2, 2, 2, 2, 2, 1}}, {zigzag, []int{1, 3, 3, 2, 1, 3, 3, 2}},
	} {
		if l, e := brands.Round(c.n, c.lines); !slices.Equal(l, c.want) || e != api.OK {
			t.Error(c, l, e)
		}
	}
	for _, b := range greatBrands(19) {
		want := make([]int, b.n)
		for _, tri := range trianglesOf(b) {
			for _, c := range tri {
				want[c]++
			}
		}
		if l, e := brands.Round(b.n, b.lines); !slices.Equal(l, want) || !slices.Equal(l, slowRound(b)) || e != api.OK {
			t.Error(b, l, e)
		}
	}
}

func TestP2_2Of(t *testing.T) {
	for _, c := range []struct {
		round []int
		want  []api.Pair
	}{
		{[]int{1, 1, 1}, nil}, {[]int{2, 1, 2, 1}, lines(0, 2)}, {[]int{1, 2, 1, 2}, lines(1, 3)}, {[]int{1, 3, 1, 2, 2}, five.lines},
		{[]int{1, 3, 1, 3, 1, 3}, lines(1, 3, 1, 5, 3, 5)}, {[]int{6, 1, 2, 2, 2, 2, 2, 1}, fan.lines}, {slowRound(great), great.lines},
		{[]int{10, 1, 2, 2, 2, 2, 2, 2, 2, 2, 2, 1}, lines(0, 2, 0, 3, 0, 4, 0, 5, 0, 6, 0, 7, 0, 8, 0, 9, 0, 10)},
	} {
		if l, e := brands.Of(c.round); !slices.Equal(l, c.want) || e != api.OK {
			t.Error(c, l, e)
		}
	}
	for _, round := range [][]int{
		{2, 2, 2}, {1, 1, 2}, {1, 2, 2}, {12, 12, 12}, {1, 1, 1, 1}, {1, 1, 2, 2}, {2, 2, 1, 1}, {2, 1, 2, 2}, {3, 1, 2, 1}, {2, 2, 2, 2}, {3, 1, 3, 1},
		{1, 1, 3, 2, 2}, {1, 2, 1, 2, 3}, {2, 2, 2, 2, 2}, {1, 1, 1, 1, 1, 1}, slices.Repeat([]int{1}, 9), slices.Repeat([]int{12}, 12),
		{1, 3, 1, 3, 2, 2}, {1, 12, 1, 12, 1, 12}, {1, 4, 2, 1, 2, 2}, {2, 1, 2, 1, 2, 1, 2, 1},
	} {
		if l, e := brands.Of(round); len(l) != 0 || e != api.ErrPlan {
			t.Error(round, l, e)
		}
	}
}

// key is a round list that can be the key of a map.
func key(round []int) [12]int {
	var out [12]int
	copy(out[:], round)
	return out
}

// TestP2_2OfAll looks at all round lists of small numbers, and holds them against those of all brands.
func TestP2_2OfAll(t *testing.T) {
	for _, c := range []struct{ n, most int }{{3, 12}, {4, 12}, {5, 6}, {6, 5}, {7, 5}, {8, 4}} {
		brandOf := map[[12]int][]api.Pair{}
		for _, b := range allBrands(c.n) {
			brandOf[key(slowRound(b))] = b.lines
		}
		allRounds(c.n, c.most, func(round []int) {
			l, e := brands.Of(round)
			want, ok := brandOf[key(round)]
			if ok && (e != api.OK || !slices.Equal(l, want)) || !ok && (e != api.ErrPlan || len(l) != 0) {
				t.Fatal(round, l, e, want, ok)
			}
		})
	}
}

func TestP2_3Between(t *testing.T) {
	for _, c := range []struct {
		round      []int
		i, k, want int
	}{
		{[]int{1, 1, 1}, 0, 0, 0}, {[]int{1, 1, 1}, 0, 1, 1}, {[]int{1, 1, 1}, 0, 2, 1}, {[]int{1, 1, 1}, 2, 5, 0}, {[]int{2, 2, 2}, 1, 4, 3},
		{[]int{2, 3, 5}, 0, 2, 3}, {[]int{2, 3, 5}, 0, 3, 14}, {[]int{2, 3, 5}, 2, 4, 2}, {[]int{2, 3, 5}, 2, 5, 5}, {[]int{1, 1, 1, 1, 1}, 3, 8, -1},
		{slices.Repeat([]int{12}, 12), 0, 12, 692686638072}, {slices.Repeat([]int{12}, 12), 11, 23, 692686638072},
	} {
		if n, e := brands.Between(c.round, c.i, c.k); n != c.want || e != api.OK {
			t.Error(c, n, e)
		}
	}
	for _, round := range randomRounds(300) {
		n := len(round)
		for i := -1; i <= n; i++ {
			for k := i - 2; k <= i+n+2; k++ {
				got, e := brands.Between(round, i, k)
				if i < 0 || i >= n || k < i || k > i+n {
					if got != 0 || e != api.ErrArg {
						t.Error(round, i, k, got, e)
					}
				} else if got != slowBetween(round, i, k) || e != api.OK {
					t.Error(round, i, k, got, e)
				}
			}
		}
	}
	for _, c := range [][2]int{{0, math.MinInt}, {0, math.MaxInt}, {2, math.MinInt}, {math.MaxInt, math.MaxInt}, {math.MinInt, math.MinInt}, {math.MaxInt, math.MinInt}, {-1, 0}, {3, 4}, {1, 0}, {0, 4}} {
		if n, e := brands.Between([]int{1, 1, 1}, c[0], c[1]); n != 0 || e != api.ErrArg {
			t.Error(c, n, e)
		}
	}
}

func TestP2_3Frieze(t *testing.T) {
	for _, c := range []struct {
		round []int
		want  [][]int
	}{
		{[]int{2, 1, 2, 1}, [][]int{{0, 0, 0, 0}, {1, 1, 1, 1}, {1, 2, 1, 2}, {1, 1, 1, 1}, {0, 0, 0, 0}}},
		{[]int{1, 1, 1}, [][]int{{0, 0, 0}, {1, 1, 1}, {1, 1, 1}, {0, 0, 0}}},
		{[]int{1, 3, 1, 2, 2}, [][]int{{0, 0, 0, 0, 0}, {1, 1, 1, 1, 1}, {3, 1, 2, 2, 1}, {2, 1, 3, 1, 2}, {1, 1, 1, 1, 1}, {0, 0, 0, 0, 0}}},
		{[]int{2, 3, 5}, [][]int{{0, 0, 0}, {1, 1, 1}, {3, 5, 2}, {14, 9, 5}}},
	} {
		if l, e := brands.Frieze(c.round); !slices.EqualFunc(l, c.want, slices.Equal) || e != api.OK {
			t.Error(c, l, e)
		}
	}
	for _, round := range randomRounds(300) {
		n := len(round)
		l, e := brands.Frieze(round)
		if len(l) != n+1 || e != api.OK {
			t.Fatal(round, l, e)
		}
		for r, row := range l {
			for i := range n {
				if len(row) != n || row[i] != slowBetween(round, i, i+r) {
					t.Fatal(round, r, row)
				}
			}
		}
	}
}

func TestP2_3Closed(t *testing.T) {
	for _, c := range []struct {
		round []int
		want  bool
	}{
		{[]int{1, 1, 1}, true}, {[]int{2, 2, 2}, false}, {[]int{2, 1, 2, 1}, true}, {[]int{1, 3, 1, 2, 2}, true}, {[]int{1, 1, 2}, false},
		// A list of a brand three times over.
		{slices.Repeat([]int{1}, 9), true}, {slices.Repeat([]int{1, 2}, 6), true},
		// Twice or four times over, the last row is all 0, and the last but one all -1.
		{slices.Repeat([]int{1}, 6), false}, {slices.Repeat([]int{1}, 12), false}, {slices.Repeat([]int{1, 2}, 4), false},
		// The last but one row is all 1, and the last one is not all 0.
		{slices.Repeat([]int{1}, 8), false}, {slices.Repeat([]int{1, 2}, 5), false},
		// Some numbers of the last row are 0, and some of the last but one are 1.
		{[]int{1, 1, 2, 1, 1, 2}, false}, {[]int{2, 2, 1}, false},
	} {
		if ok, e := brands.Closed(c.round); ok != c.want || ok != slowClosed(c.round) || e != api.OK {
			t.Error(c, ok, e)
		}
	}
	for _, c := range []struct{ n, most int }{{3, 12}, {4, 9}, {5, 6}, {6, 4}, {7, 4}} {
		allRounds(c.n, c.most, func(round []int) {
			if ok, e := brands.Closed(round); ok != slowClosed(round) || e != api.OK {
				t.Fatal(round, ok, e)
			}
		})
	}
}

func TestP2_4Choices(t *testing.T) {
	for _, c := range []struct {
		made
		i, k, want int
	}{
		{tri, 0, 1, 1}, {tri, 0, 2, 1}, {tri, 2, 0, 1}, {tri, 1, 0, 1}, {square, 0, 2, 1}, {square, 1, 3, 2}, {square, 3, 1, 2}, {square, 0, 3, 1}, {square, 3, 0, 1},
		{five, 0, 2, 3}, {five, 2, 0, 3}, {star, 1, 3, 3}, {star, 1, 5, 3}, {star, 5, 1, 3}, {fan, 7, 1, 6}, {fan, 1, 7, 6}, {fan, 1, 2, 1}, {zigzag, 0, 4, 13},
	} {
		if n, e := brands.Choices(c.n, c.lines, c.i, c.k); n != c.want || e != api.OK {
			t.Error(c, n, e)
		}
	}
	for _, b := range append(brandsTo(6), fan, zigzag) {
		for i := -1; i <= b.n; i++ {
			for k := -1; k <= b.n; k++ {
				ways, e := brands.Choices(b.n, b.lines, i, k)
				if i < 0 || i == b.n || k < 0 || k == b.n || i == k {
					if ways != 0 || e != api.ErrArg {
						t.Error(b, i, k, ways, e)
					}
				} else if ways != slowChoices(b, i, k) || e != api.OK {
					t.Error(b, i, k, ways, e)
				}
			}
		}
	}
}

func TestP2_5Cut(t *testing.T) {
	for _, c := range []struct {
		round  []int
		corner int
		want   []int
		err    api.Errno
	}{
		{[]int{2, 1, 2, 1}, 1, []int{1, 1, 1}, api.OK}, {[]int{2, 1, 2, 1}, 3, []int{1, 1, 1}, api.OK}, {[]int{1, 2, 1, 2}, 0, []int{1, 1, 1}, api.OK},
		{[]int{1, 3, 1, 2, 2}, 0, []int{2, 1, 2, 1}, api.OK}, {[]int{1, 3, 1, 2, 2}, 2, []int{1, 2, 1, 2}, api.OK},
		{[]int{7, 9, 4, 5, 1}, 4, []int{6, 9, 4, 4}, api.OK}, {[]int{1, 9, 4, 5, 6}, 0, []int{8, 4, 5, 5}, api.OK}, {[]int{12, 9, 1, 12}, 2, []int{12, 8, 11}, api.OK},
		{append(slices.Repeat([]int{12}, 11), 1), 11, append([]int{11, 12, 12, 12, 12, 12, 12, 12, 12, 12}, 11), api.OK},
		// No corner; that comes before what its number is.
		{[]int{2, 1, 2, 1}, -1, nil, api.ErrArg}, {[]int{2, 1, 2, 1}, 4, nil, api.ErrArg}, {[]int{1, 1, 1}, 3, nil, api.ErrArg}, {[]int{2, 2, 2, 2}, math.MaxInt, nil, api.ErrArg},
		{[]int{2, 2, 2, 2}, math.MinInt, nil, api.ErrArg},
		// No 1, a neighbour that is 1, and three corners.
		{[]int{2, 1, 2, 1}, 0, nil, api.ErrState}, {[]int{5, 5, 5, 5}, 2, nil, api.ErrState}, {[]int{1, 1, 3, 4}, 0, nil, api.ErrState}, {[]int{1, 1, 3, 4}, 1, nil, api.ErrState},
		{[]int{1, 3, 4, 1}, 0, nil, api.ErrState}, {[]int{1, 3, 4, 1}, 3, nil, api.ErrState}, {[]int{2, 1, 1, 2, 2}, 1, nil, api.ErrState}, {[]int{2, 1, 1, 2, 2}, 2, nil, api.ErrState},
		{[]int{1, 1, 1}, 0, nil, api.ErrState}, {[]int{2, 1, 2}, 1, nil, api.ErrState}, {[]int{2, 2, 2}, 1, nil, api.ErrState},
	} {
		if l, e := brands.Cut(c.round, c.corner); !slices.Equal(l, c.want) || e != c.err {
			t.Error(c, l, e)
		}
	}
}

func TestP2_5Glue(t *testing.T) {
	twelve := []int{10, 1, 2, 2, 2, 2, 2, 2, 2, 2, 2, 1}
	for _, c := range []struct {
		round  []int
		corner int
		want   []int
		err    api.Errno
	}{
		{[]int{1, 1, 1}, 0, []int{2, 1, 2, 1}, api.OK}, {[]int{1, 1, 1}, 1, []int{1, 2, 1, 2}, api.OK}, {[]int{1, 1, 1}, 2, []int{2, 1, 2, 1}, api.OK},
		{[]int{3, 4, 5, 6}, 0, []int{4, 1, 5, 5, 6}, api.OK}, {[]int{3, 4, 5, 6}, 2, []int{3, 4, 6, 1, 7}, api.OK}, {[]int{3, 4, 5, 6}, 3, []int{4, 4, 5, 7, 1}, api.OK},
		{[]int{11, 12, 11}, 2, []int{12, 12, 12, 1}, api.OK}, {twelve[:11], 10, []int{11, 1, 2, 2, 2, 2, 2, 2, 2, 2, 3, 1}, api.OK},
		// No corner; that comes before a list that is full.
		{[]int{1, 1, 1}, -1, nil, api.ErrArg}, {[]int{1, 1, 1}, 3, nil, api.ErrArg}, {twelve, 12, nil, api.ErrArg}, {twelve, math.MinInt, nil, api.ErrArg}, {twelve, math.MaxInt, nil, api.ErrArg},
		// A full list; that comes before numbers that are too great.
		{twelve, 0, nil, api.ErrFull}, {twelve, 11, nil, api.ErrFull}, {slices.Repeat([]int{12}, 12), 3, nil, api.ErrFull},
		// Numbers that would be too great, on either side.
		{[]int{12, 1, 1, 1}, 0, nil, api.ErrRange}, {[]int{12, 1, 1, 1}, 3, nil, api.ErrRange}, {[]int{1, 12, 1, 1}, 0, nil, api.ErrRange}, {[]int{1, 12, 1, 1}, 1, nil, api.ErrRange},
		{[]int{1, 1, 1, 12}, 3, nil, api.ErrRange}, {[]int{12, 12, 12}, 1, nil, api.ErrRange},
		{[]int{1, 12, 1, 1}, 2, []int{1, 12, 2, 1, 2}, api.OK}, {[]int{12, 1, 1, 1}, 1, []int{12, 2, 1, 2, 1}, api.OK},
	} {
		if l, e := brands.Glue(c.round, c.corner); !slices.Equal(l, c.want) || e != c.err {
			t.Error(c, l, e)
		}
	}
}

func TestP2_6Flip(t *testing.T) {
	for _, c := range []struct {
		made
		line int
		want []api.Pair
	}{
		{square, 0, lines(1, 3)}, {made{4, lines(1, 3)}, 0, lines(0, 2)}, {five, 0, lines(1, 4, 2, 4)}, {five, 1, lines(0, 3, 1, 3)},
		{star, 0, lines(0, 4, 1, 4, 2, 4)}, {star, 1, lines(0, 2, 2, 4, 2, 5)}, {star, 2, lines(0, 2, 0, 3, 0, 4)}, {fan, 2, lines(0, 2, 0, 3, 0, 5, 0, 6, 3, 5)},
	} {
		if l, e := brands.Flip(c.n, c.lines, c.line); !slices.Equal(l, c.want) || e != api.OK {
			t.Error(c, l, e)
		}
	}
	for _, b := range greatBrands(211) {
		for i := range b.lines {
			if l, e := brands.Flip(b.n, b.lines, i); !slices.Equal(l, slowFlip(b, i)) || e != api.OK {
				t.Error(b, i, l, e)
			}
		}
		for _, i := range []int{-1, len(b.lines), math.MinInt, math.MaxInt} {
			if l, e := brands.Flip(b.n, b.lines, i); len(l) != 0 || e != api.ErrArg {
				t.Error(b, i, l, e)
			}
		}
	}
}

func TestP2_7Count(t *testing.T) {
	for i, want := range []int{1, 2, 5, 14, 42, 132, 429, 1430, 4862, 16796} {
		if n, e := brands.Count(i + 3); n != want || n != len(allBrands(i+3)) || e != api.OK {
			t.Error(i+3, n, e)
		}
	}
	for _, n := range []int{2, 1, 0, -1, -3, 13, 14, 1 << 32, math.MinInt, math.MaxInt} {
		if count, e := brands.Count(n); count != 0 || e != api.ErrArg {
			t.Error(n, count, e)
		}
	}
}
