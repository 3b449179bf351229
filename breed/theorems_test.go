package breed_test

import (
	"slices"
	"testing"

	"droveway/api"
	"droveway/breed"
)

// succeeds reports whether Build does, or else fails for the triples.
func succeeds(t *testing.T, n int, triples []api.Triple) bool {
	t.Helper()
	tree, e := breed.Build(n, triples)
	if e != api.OK && e != api.ErrPlan {
		t.Fatal(n, triples, tree, e)
	}
	return e == api.OK
}

func TestP5_8AhoSagivSzymanskiUllman(t *testing.T) {
	var trees [7][]string
	for n := 1; n <= 6; n++ {
		trees[n] = allTrees(n)
	}
	both := [2]int{}
	for _, m := range manyMemories(3000, 8) {
		tree, e := breed.Build(m.n, m.triples)
		knot, f := breed.Knot(m.n, m.triples)
		if e == api.OK {
			both[0]++
			if shows, g := breed.Shows(m.n, tree, m.triples); !shows || g != api.OK || f != api.ErrPlan || knot != 0 {
				t.Fatal(m, tree, shows, g, knot, f)
			}
			continue
		}
		both[1]++
		if e != api.ErrPlan || f != api.OK {
			t.Fatal(m, e, knot, f)
		}
		if m.n > 6 {
			continue
		}
		for _, tree := range trees[m.n] {
			if slowShowsAll(tree, m.triples) {
				t.Fatal(m, tree, e)
			}
		}
	}
	if both[0] < 500 || both[1] < 500 {
		t.Error("too few lists of a kind:", both)
	}
	for n := 7; n <= 8; n++ {
		for _, tree := range randomTrees(300, n) {
			triples, e := breed.Triples(n, tree)
			for i := range triples {
				if !succeeds(t, n, triples[i:]) || e != api.OK {
					t.Fatal(tree, triples[i:], e)
				}
			}
		}
	}
}

// TestP5_9Back looks at all trees of up to seven beasts.
func TestP5_9Back(t *testing.T) {
	for n := 1; n <= 8; n++ {
		trees := append(randomTrees(1000, n), eights...)
		if n <= 7 {
			trees = allTrees(n)
		}
		for _, tree := range trees {
			triples, e := breed.Triples(n, tree)
			if back, f := breed.Build(n, triples); back != tree || e != api.OK || f != api.OK {
				t.Fatal(n, tree, triples, back, e, f)
			}
			beasts := map[int]bool{}
			for _, s := range triples {
				if set := 1<<s.A + 1<<s.B + 1<<s.C; beasts[set] {
					t.Fatal("two triples of the same beasts:", n, tree, triples)
				} else {
					beasts[set] = true
				}
			}
		}
	}
}

// TestP5_10Closure takes only lists that Build succeeds with.
func TestP5_10Closure(t *testing.T) {
	found := 0
	for i, m := range manyMemories(2000, 8) {
		closure, e := breed.Closure(m.n, m.triples)
		if !succeeds(t, m.n, m.triples) {
			if e != api.ErrPlan {
				t.Fatal(m, closure, e)
			}
			continue
		}
		if e != api.OK || len(closure) > api.MaxTriples || !slices.IsSortedFunc(closure, compareTriples) {
			t.Fatal(m, closure, e)
		}
		found++
		for _, triple := range m.triples {
			if !slices.Contains(closure, triple) {
				t.Fatal(m, closure, triple)
			}
		}
		if again, f := breed.Closure(m.n, closure); !slices.Equal(again, closure) || f != api.OK {
			t.Fatal(m, closure, again, f)
		}
		if i%4 > 0 || len(m.triples) == api.MaxTriples {
			continue
		}
		for _, triple := range allTriples(m.n) {
			others := otherTriples(triple)
			fail := len(others) == 2
			for _, other := range others {
				fail = fail && !succeeds(t, m.n, append(slices.Clone(m.triples), other))
			}
			if slices.Contains(closure, triple) != fail {
				t.Fatal(m, closure, triple, others)
			}
		}
	}
	if found < 500 {
		t.Error("too few lists have a tree:", found)
	}
}

func TestP5_11Kept(t *testing.T) {
	for n := 1; n <= 8; n++ {
		trees := append(randomTrees(30, n), eights...)
		if n <= 5 {
			trees = allTrees(n)
		}
		for _, tree := range trees {
			if !slowIsTree(n, tree) {
				continue
			}
			triples, e := breed.Triples(n, tree)
			if e != api.OK {
				t.Fatal(n, tree, e)
			}
			for set := 1; set < 1<<n; set++ {
				kept, e := breed.Kept(n, tree, set)
				if e != api.OK {
					t.Fatal(tree, set, e)
				}
				// Triples takes just trees of the least beasts, so that the beasts of the set get their places as names.
				list := listOf(set)
				got, e := breed.Triples(len(list), numbered(kept, set))
				var want []api.Triple
				for _, s := range triples {
					a, b, c := slices.Index(list, s.A), slices.Index(list, s.B), slices.Index(list, s.C)
					if a >= 0 && b >= 0 && c >= 0 {
						want = append(want, api.Triple{A: a, B: b, C: c})
					}
				}
				if !slices.Equal(got, want) || e != api.OK {
					t.Fatal(tree, set, kept, got, want, e)
				}
			}
			if agree, e := breed.Agree(n, tree, tree); agree != 1<<n-1 || e != api.OK {
				t.Error(tree, agree, e)
			}
			other := trees[len(trees)/2]
			if agree, e := breed.Agree(n, tree, other); slowIsTree(n, other) && (sizeOf(agree) < min(n, 2) || e != api.OK) {
				t.Error(tree, other, agree, e)
			}
			for a := range n {
				for b := range a {
					pair := 1<<a + 1<<b
					kept, e := breed.Kept(n, tree, pair)
					if same, f := breed.Kept(n, randomTrees(1, n)[0], pair); kept != same || e != api.OK || f != api.OK {
						t.Error(tree, pair, kept, same, e, f)
					}
				}
			}
		}
	}
}

func TestP5_12More(t *testing.T) {
	failed := 0
	for _, m := range manyMemories(2000, 8) {
		if succeeds(t, m.n, m.triples) || len(m.triples) == api.MaxTriples {
			continue
		}
		failed++
		for _, more := range allTriples(m.n) {
			if succeeds(t, m.n, append(slices.Clone(m.triples), more)) || succeeds(t, m.n, append([]api.Triple{more}, m.triples...)) {
				t.Fatal(m, more)
			}
		}
	}
	if failed < 500 {
		t.Error("too few lists fail:", failed)
	}
}

// TestP5_12Count asks for the Triples of all trees of up to seven beasts, and looks at all trees of eight.
func TestP5_12Count(t *testing.T) {
	for n := 1; n <= 8; n++ {
		count, e := breed.Count(n)
		if e != api.OK {
			t.Fatal(n, count, e)
		}
		trees := allTrees(n)
		if len(trees) != count {
			t.Error(n, len(trees), count)
		}
		different := map[string]bool{}
		for _, tree := range trees {
			if n == 8 {
				if !breed.IsTree(n, tree) {
					t.Fatal(tree)
				}
				continue
			}
			triples, e := breed.Triples(n, tree)
			if e != api.OK {
				t.Fatal(tree, e)
			}
			different[key(triples)] = true
		}
		if n < 8 && len(different) != count {
			t.Error(n, len(different), count)
		}
	}
}

// key is a text of its own for each list.
func key(triples []api.Triple) string {
	var out []byte
	for _, s := range triples {
		out = append(out, byte('0'+s.A), byte('0'+s.B), byte('0'+s.C))
	}
	return string(out)
}
