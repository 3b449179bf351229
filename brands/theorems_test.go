package brands_test

import (
	"math/rand/v2"
	"slices"
	"testing"

	"droveway/api"
	"droveway/brands"
)

// sum adds the numbers of a list.
func sum(list []int) int {
	total := 0
	for _, n := range list {
		total += n
	}
	return total
}

// frieze returns the brand's Round and its table.
func frieze(t *testing.T, b made) ([]int, [][]int) {
	t.Helper()
	round, e := brands.Round(b.n, b.lines)
	table, f := brands.Frieze(round)
	if e != api.OK || f != api.OK {
		t.Fatal(b, round, e, f)
	}
	return round, table
}

func TestP2_8Back(t *testing.T) {
	for n := 3; n <= 12; n++ {
		for _, b := range allBrands(n) {
			round, e := brands.Round(b.n, b.lines)
			l, f := brands.Of(round)
			if !slices.Equal(l, b.lines) || e != api.OK || f != api.OK {
				t.Fatal(b, round, l, e, f)
			}
			if ok, e := brands.Closed(round); !ok || sum(round) != 3*n-6 || e != api.OK {
				t.Fatal(b, round, ok, e)
			}
		}
	}
}

// backOrNone: Of succeeds exactly if Closed is true and the sum is 3 n - 6, and Round of it is the list then.
func backOrNone(t *testing.T, round []int) bool {
	t.Helper()
	n := len(round)
	l, e := brands.Of(round)
	closed, f := brands.Closed(round)
	if f != api.OK || (e == api.OK) != (closed && sum(round) == 3*n-6) || e != api.OK && e != api.ErrPlan {
		t.Fatal(round, l, e, closed, f)
	}
	if e != api.OK {
		return false
	}
	if again, e := brands.Round(n, l); !slices.Equal(again, round) || e != api.OK {
		t.Fatal(round, l, again, e)
	}
	return true
}

func TestP2_8ConwayCoxeter(t *testing.T) {
	for _, c := range []struct{ n, most int }{{3, 12}, {4, 12}, {5, 6}, {6, 5}, {7, 4}, {8, 4}} {
		found := 0
		allRounds(c.n, c.most, func(round []int) {
			if backOrNone(t, round) {
				found++
			}
		})
		want := 0
		for _, b := range allBrands(c.n) {
			if slices.Max(slowRound(b)) <= c.most {
				want++
			}
		}
		if found != want {
			t.Error(c, found, want)
		}
	}
	for _, round := range append(randomRounds(2000), slices.Repeat([]int{1}, 9), slices.Repeat([]int{2}, 6)) {
		backOrNone(t, round)
	}
}

// TestP2_8Changed moves triangles from corner to corner, so that the sum stays the same.
func TestP2_8Changed(t *testing.T) {
	r := rand.New(rand.NewPCG(5, 6))
	none := 0
	for _, b := range greatBrands(31) {
		round := slowRound(b)
		i, k := r.IntN(b.n), r.IntN(b.n)
		if round[i] == 1 || i == k {
			continue
		}
		round[i]--
		round[k]++
		if !backOrNone(t, round) {
			none++
		}
	}
	if none < 100 {
		t.Error("too few lists without a brand", none)
	}
}

func TestP2_9Friezes(t *testing.T) {
	for _, b := range greatBrands(13) {
		_, table := frieze(t, b)
		n := b.n
		for r, row := range table {
			for i, number := range row {
				if 1 <= r && r <= n-1 && number < 1 || r%n == 0 && number != 0 {
					t.Error(b, table)
				}
				if other := table[n-r][(i+r)%n]; other != number {
					t.Error(b, r, i, number, other)
				}
			}
		}
		for i := range n {
			// e(i, k) with k from i + 1 on is in row k - i; e(i + 1, k) is a row ahead of it, and e(i, k + 1) behind it.
			for r := 1; r <= n-1; r++ {
				next := (i + 1) % n
				if table[r][i]*table[r][next]-table[r-1][next]*table[r+1][i] != 1 {
					t.Error(b, i, r)
				}
			}
		}
	}
}

func TestP2_10Choices(t *testing.T) {
	for _, b := range greatBrands(101) {
		round, e := brands.Round(b.n, b.lines)
		if e != api.OK {
			t.Fatal(b, e)
		}
		for i := range b.n {
			for k := i + 1; k < b.n; k++ {
				want, e := brands.Between(round, i, k)
				one, f := brands.Choices(b.n, b.lines, i, k)
				other, g := brands.Choices(b.n, b.lines, k, i)
				if one != want || other != want || e != api.OK || f != api.OK || g != api.OK {
					t.Error(b, i, k, want, one, other, e, f, g)
				}
			}
		}
	}
}

func TestP2_11Ptolemy(t *testing.T) {
	for _, b := range greatBrands(101) {
		e := betweens(t, b)
		n := b.n
		for i := range n {
			for j := i + 1; j < n; j++ {
				for k := j + 1; k < n; k++ {
					for l := k + 1; l < n; l++ {
						if e[i][k]*e[j][l] != e[i][j]*e[k][l]+e[i][l]*e[j][k] {
							t.Error(b, i, j, k, l)
						}
					}
				}
				joined := j == i+1 || i == 0 && j == n-1 || slices.Contains(b.lines, api.Pair{A: i, B: j})
				if (e[i][j] == 1) != joined {
					t.Error(b, i, j)
				}
			}
		}
	}
}

// betweens returns the numbers between any two corners, the less one first.
func betweens(t *testing.T, b made) [12][12]int {
	t.Helper()
	round, e := brands.Round(b.n, b.lines)
	if e != api.OK {
		t.Fatal(b, e)
	}
	var out [12][12]int
	for i := range b.n {
		for k := i + 1; k < b.n; k++ {
			out[i][k], e = brands.Between(round, i, k)
			if e != api.OK {
				t.Fatal(b, i, k, e)
			}
		}
	}
	return out
}

func TestP2_12Ears(t *testing.T) {
	for _, b := range greatBrands(17)[1:] {
		round, e := brands.Round(b.n, b.lines)
		if e != api.OK {
			t.Fatal(b, e)
		}
		ears := 0
		for c, number := range round {
			if number != 1 {
				continue
			}
			ears++
			if round[(c+1)%b.n] == 1 {
				t.Error("neighbours", b, round)
			}
			less, e := brands.Cut(round, c)
			if _, f := brands.Of(less); len(less) != b.n-1 || e != api.OK || f != api.OK {
				t.Fatal(b, c, less, e, f)
			}
			want, at := round, c-1
			if c == 0 {
				// The 1 is glued behind the last corner, so that the list begins with the second one.
				want, at = append(slices.Clone(round[1:]), round[0]), b.n-2
			}
			if more, e := brands.Glue(less, at); !slices.Equal(more, want) || e != api.OK {
				t.Error(b, c, less, more, e)
			}
		}
		if ears < 2 {
			t.Error(b, round)
		}
	}
}

// TestP2_12Glue: a list with an ear glued on is that of a brand, too, and Cut takes the ear off.
func TestP2_12Glue(t *testing.T) {
	for _, b := range greatBrands(61) {
		round := slowRound(b)
		for c := range round {
			more, e := brands.Glue(round, c)
			if b.n == 12 {
				if len(more) != 0 || e != api.ErrFull {
					t.Error(b, more, e)
				}
				continue
			}
			if _, f := brands.Of(more); e != api.OK || f != api.OK {
				t.Error(b, c, more, e, f)
			}
			if less, e := brands.Cut(more, c+1); !slices.Equal(less, round) || e != api.OK {
				t.Error(b, c, more, less, e)
			}
		}
	}
}

// waysOf is the number of ways to choose k of n things.
func waysOf(n, k int) int {
	if k == 0 || k == n {
		return 1
	}
	return waysOf(n-1, k-1) + waysOf(n-1, k)
}

func TestP2_13Catalan(t *testing.T) {
	for n := 3; n <= 12; n++ {
		if count, e := brands.Count(n); count*(n-1) != waysOf(2*n-4, n-2) || e != api.OK {
			t.Error(n, count, e)
		}
	}
}

func TestP2_13FlipTwice(t *testing.T) {
	for _, b := range greatBrands(29) {
		for i := range b.lines {
			l, e := brands.Flip(b.n, b.lines, i)
			if e != api.OK || !brands.IsBrand(b.n, l) || slices.Contains(l, b.lines[i]) {
				t.Fatal(b, i, l, e)
			}
			at := slices.IndexFunc(l, func(p api.Pair) bool { return !slices.Contains(b.lines, p) })
			if again, e := brands.Flip(b.n, l, at); !slices.Equal(again, b.lines) || e != api.OK {
				t.Error(b, i, l, again, e)
			}
		}
	}
}

// TestP2_13All: flips lead from any one brand to all others, so that Count can be seen in them.
func TestP2_13All(t *testing.T) {
	type brand [9]api.Pair
	for n := 3; n <= 9; n++ {
		var start brand
		for i := range n - 3 {
			start[i] = api.Pair{A: 0, B: i + 2}
		}
		seen := map[brand]bool{start: true}
		open := []brand{start}
		for len(open) > 0 {
			b := open[0]
			open = open[1:]
			for i := range n - 3 {
				l, e := brands.Flip(n, b[:n-3], i)
				if e != api.OK {
					t.Fatal(n, b, i, e)
				}
				var next brand
				copy(next[:], l)
				if !seen[next] {
					seen[next] = true
					open = append(open, next)
				}
			}
		}
		if count, e := brands.Count(n); count != len(seen) || e != api.OK {
			t.Error(n, count, len(seen), e)
		}
	}
}
