package mobs_test

import (
	"slices"
	"testing"

	"droveway/api"
	"droveway/mobs"
)

// ok fails the test if there is an error.
func ok(t *testing.T, e api.Errno) {
	t.Helper()
	if e != api.OK {
		t.Fatal(e)
	}
}

func isFiner(t *testing.T, a, b []int) bool {
	t.Helper()
	finer, e := mobs.Finer(a, b)
	ok(t, e)
	return finer
}

func between(t *testing.T, list []int) []int {
	t.Helper()
	boys, e := mobs.Between(list)
	ok(t, e)
	return boys
}

func around(t *testing.T, list []int, by int) []int {
	t.Helper()
	turned, e := mobs.Around(list, by)
	ok(t, e)
	return turned
}

func howMany(t *testing.T, list []int) int {
	t.Helper()
	lists, e := mobs.Mobs(list)
	ok(t, e)
	return len(lists)
}

func TestP6_8Stirling(t *testing.T) {
	for n := 1; n <= 12; n++ {
		for k := 1; k <= n; k++ {
			count, e := mobs.Count(n, k)
			ok(t, e)
			same := 0
			if k < n {
				same, e = mobs.Count(n-1, k)
				ok(t, e)
			}
			less, e := mobs.Count(n-1, k-1)
			ok(t, e)
			if count != k*same+less {
				t.Error(n, k, count, same, less)
			}
		}
	}
}

// TestP6_8Bell goes through all ranks of up to ten beasts, and through every tenth one of more.
func TestP6_8Bell(t *testing.T) {
	for n := range 13 {
		sum := 0
		for k := range n + 1 {
			count, e := mobs.Count(n, k)
			ok(t, e)
			sum += count
		}
		if _, e := mobs.At(n, sum); sum != bells[n] || e != api.ErrRange {
			t.Error(n, sum, e)
		}
		step := 1
		if n > 10 {
			step = 10
		}
		last := []int{-1}
		for rank := 0; rank < sum; rank += step {
			list, e := mobs.At(n, rank)
			ok(t, e)
			if back, e := mobs.Rank(list); back != rank || e != api.OK || len(list) != n || !mobs.IsParting(list) {
				t.Fatal(n, rank, list, back, e)
			}
			if n > 0 && slices.Compare(last, list) >= 0 {
				t.Fatal("not ascending:", rank, last, list)
			}
			last = list
		}
	}
	for n := range 13 {
		for _, list := range randomPartings(500, n) {
			rank, e := mobs.Rank(list)
			ok(t, e)
			if back, e := mobs.At(n, rank); !slices.Equal(back, list) || e != api.OK {
				t.Fatal(list, rank, back, e)
			}
		}
	}
}

func TestP6_9Order(t *testing.T) {
	for n := range 7 {
		all := allPartings(n)
		finer := make([][]bool, len(all))
		for i, a := range all {
			for k, b := range all {
				finer[i] = append(finer[i], isFiner(t, a, b))
				if k < i && finer[i][k] && finer[k][i] || i == k && !finer[i][k] {
					t.Fatal(a, b)
				}
			}
		}
		for i := range all {
			for k := range all {
				for l := range all {
					if finer[i][k] && finer[k][l] && !finer[i][l] {
						t.Fatal(all[i], all[k], all[l])
					}
				}
			}
		}
	}
}

// TestP6_9Meet holds the meets of all pairs of up to five beasts, and of random ones of six, against all partings, and others
// against random ones.
func TestP6_9Meet(t *testing.T) {
	for n := range 13 {
		all, others := randomPartings(80, n), randomPartings(60, n)
		if n <= 5 {
			all, others = allPartings(n), allPartings(n)
		}
		if n == 6 {
			others = allPartings(n)
		}
		for _, a := range all {
			for _, b := range all {
				first, second, e := mobs.Meet(a, b)
				ok(t, e)
				if !isFiner(t, first, a) || !isFiner(t, first, b) || !isFiner(t, a, second) || !isFiner(t, b, second) {
					t.Fatal(a, b, first, second)
				}
				for _, c := range others {
					if isFiner(t, c, a) && isFiner(t, c, b) && !isFiner(t, c, first) || isFiner(t, a, c) && isFiner(t, b, c) && !isFiner(t, second, c) {
						t.Fatal(a, b, c, first, second)
					}
				}
			}
		}
	}
}

// TestP6_10Kreweras takes all partings that are not crossed of up to nine beasts, and random ones of up to twelve.
func TestP6_10Kreweras(t *testing.T) {
	for n := range 13 {
		all := randomPlain(1000, n)
		if n <= 9 {
			all = plainPartings(n)
		}
		for _, list := range all {
			boys := between(t, list)
			if four, crossed, e := mobs.Crossed(boys); crossed || four != [4]int{} || e != api.OK || len(boys) != n {
				t.Fatal(list, boys, four, e)
			}
			if n > 0 && howMany(t, list)+howMany(t, boys) != n+1 {
				t.Fatal(list, boys)
			}
			if twice, turned := between(t, boys), around(t, list, 1); !slices.Equal(twice, turned) {
				t.Fatal(list, boys, twice, turned)
			}
		}
	}
}

func TestP6_10Finer(t *testing.T) {
	for n := range 13 {
		all := randomPlain(200, n)
		if n <= 7 {
			all = plainPartings(n)
		}
		for _, a := range all {
			for _, b := range all {
				if isFiner(t, a, b) && !isFiner(t, between(t, b), between(t, a)) {
					t.Fatal(a, b)
				}
			}
		}
	}
}

func TestP6_11Plain(t *testing.T) {
	for n := range 13 {
		sum := 0
		for k := range n + 1 {
			count, e := mobs.Plain(n, k)
			ok(t, e)
			sum += count
			if n == 0 || k == 0 {
				continue
			}
			if other, e := mobs.Plain(n, n+1-k); other != count || e != api.OK {
				t.Error(n, k, count, other, e)
			}
		}
		// The ways to choose n of 2 n, divided by n + 1.
		ways := 1
		for i := range n {
			ways = ways * (2*n - i) / (i + 1)
		}
		if sum != catalans[n] || sum*(n+1) != ways {
			t.Error(n, sum, ways)
		}
	}
}

// TestP6_11All asks which partings of up to ten beasts are not crossed.
func TestP6_11All(t *testing.T) {
	for n := range 11 {
		counts := make([]int, n+1)
		for _, list := range allPartings(n) {
			_, crossed, e := mobs.Crossed(list)
			ok(t, e)
			if !crossed {
				counts[howMany(t, list)]++
			}
		}
		for k, want := range counts {
			if count, e := mobs.Plain(n, k); count != want || e != api.OK {
				t.Error(n, k, count, want, e)
			}
		}
	}
}

func TestP6_12Around(t *testing.T) {
	for n := range 13 {
		all := slices.Concat(randomPartings(100, n), randomPlain(300, n))
		if n <= 7 {
			all = allPartings(n)
		}
		for _, list := range all {
			_, crossed, e := mobs.Crossed(list)
			ok(t, e)
			for by := -n - 2; by <= 2*n+1; by++ {
				turned := around(t, list, by)
				if _, still, e := mobs.Crossed(turned); still != crossed || e != api.OK || howMany(t, turned) != howMany(t, list) {
					t.Fatal(list, by, turned, e)
				}
				if back := around(t, turned, -by); !slices.Equal(back, list) {
					t.Fatal(list, by, turned, back)
				}
				if crossed {
					continue
				}
				if boys, first := between(t, turned), around(t, between(t, list), by); !slices.Equal(boys, first) {
					t.Fatal(list, by, boys, first)
				}
			}
		}
	}
}
