package breed_test

import (
	"math"
	"math/rand/v2"
	"slices"
	"strings"
	"testing"

	"droveway/api"
	"droveway/breed"
)

// asked is what all functions together can be asked for.
type asked struct {
	memory
	tree, other string
	a, b, set   int
}

// results calls all functions that return an error, and returns their errors; with an error, nothing else may be returned.
func results(t *testing.T, q asked) []api.Errno {
	t.Helper()
	family, e0 := breed.Family(q.n, q.tree, q.a, q.b)
	shows, e1 := breed.Shows(q.n, q.tree, q.triples)
	triples, e2 := breed.Triples(q.n, q.tree)
	tree, e3 := breed.Build(q.n, q.triples)
	knot, e4 := breed.Knot(q.n, q.triples)
	joined, e5 := breed.Joined(q.n, q.triples, q.set)
	closure, e6 := breed.Closure(q.n, q.triples)
	kept, e7 := breed.Kept(q.n, q.tree, q.set)
	agree, e8 := breed.Agree(q.n, q.tree, q.other)
	count, e9 := breed.Count(q.n)
	if e0 != api.OK && family != 0 || e1 != api.OK && shows || e2 != api.OK && len(triples) != 0 || e3 != api.OK && tree != "" || e4 != api.OK && knot != 0 ||
		e5 != api.OK && len(joined) != 0 || e6 != api.OK && len(closure) != 0 || e7 != api.OK && kept != "" || e8 != api.OK && agree != 0 || e9 != api.OK && count != 0 {
		t.Error("results with an error", q)
	}
	return []api.Errno{e0, e1, e2, e3, e4, e5, e6, e7, e8, e9}
}

// wantErrors goes by the words of the chapter.
func wantErrors(q asked) []api.Errno {
	if q.n < 1 || q.n > 8 {
		return slices.Repeat([]api.Errno{api.ErrArg}, 10)
	}
	want := make([]api.Errno, 10)
	triples := slowTriplesError(q.n, q.triples)
	isSet := q.set >= 1 && q.set < 1<<q.n
	if !slowIsTree(q.n, q.tree) {
		want[0], want[1], want[2], want[7], want[8] = api.ErrForm, api.ErrForm, api.ErrForm, api.ErrForm, api.ErrForm
	} else {
		if q.a < 0 || q.a >= q.n || q.b < 0 || q.b >= q.n {
			want[0] = api.ErrArg
		}
		want[1] = triples
		if !isSet {
			want[7] = api.ErrArg
		}
		if !slowIsTree(q.n, q.other) {
			want[8] = api.ErrForm
		}
	}
	if triples != api.OK {
		want[3], want[4], want[5], want[6] = triples, triples, triples, triples
		return want
	}
	if _, ok := slowBuild(q.triples, 1<<q.n-1); ok {
		want[4] = api.ErrPlan
	} else {
		want[3], want[6] = api.ErrPlan, api.ErrPlan
	}
	if !isSet {
		want[5] = api.ErrArg
	}
	return want
}

func TestNotNumbers(t *testing.T) {
	for _, n := range []int{0, -1, 9, 10, 16, 63, 64, 1<<32 + 3, math.MinInt, math.MaxInt} {
		for _, q := range []asked{
			{tree: "(0,1,2)", other: "(0,1,2)", set: 1}, {tree: "0", other: "0", a: -1, b: 9, set: -1}, {tree: "", other: ""}, {tree: "(0,1,2,3,4,5,6,7,8)", other: "(0,1,2,3,4,5,6,7,8)", set: 511},
			{memory: memory{triples: []api.Triple{{A: 0, B: 1, C: 2}}}, tree: chain, other: star, set: 3}, {memory: memory{triples: make([]api.Triple, 61)}, tree: "x"}, {memory: memory{triples: make([]api.Triple, 1)}, set: 1},
		} {
			q.n = n
			if breed.IsTree(n, q.tree) {
				t.Error(n, q.tree)
			}
			for i, e := range results(t, q) {
				if e != api.ErrArg {
					t.Error(q, "function", i, e)
				}
			}
		}
	}
}

func TestNotTriples(t *testing.T) {
	good := api.Triple{A: 0, B: 1, C: 2}
	for _, c := range []struct {
		memory
		err api.Errno
	}{
		{memory{3, slices.Repeat([]api.Triple{good}, 61)}, api.ErrLimit}, {memory{1, make([]api.Triple, 61)}, api.ErrLimit}, {memory{8, make([]api.Triple, 1000)}, api.ErrLimit}, {memory{2, slices.Repeat([]api.Triple{good}, 61)}, api.ErrLimit},
		{memory{3, make([]api.Triple, 60)}, api.ErrArg}, {memory{8, append(slices.Repeat([]api.Triple{good}, 59), api.Triple{A: 0, B: 1, C: 8})}, api.ErrArg}, {memory{2, []api.Triple{good}}, api.ErrArg}, {memory{1, []api.Triple{{}}}, api.ErrArg},
		{memory{3, []api.Triple{good, {A: 1, B: 0, C: 2}}}, api.ErrArg}, {memory{3, []api.Triple{{A: 0, B: 2, C: 2}}}, api.ErrArg}, {memory{3, []api.Triple{{A: 1, B: 2, C: 1}}}, api.ErrArg}, {memory{3, []api.Triple{{A: 1, B: 1, C: 2}}}, api.ErrArg},
		{memory{3, []api.Triple{{A: 0, B: 1, C: 3}}}, api.ErrArg}, {memory{3, []api.Triple{{A: 0, B: 3, C: 1}}}, api.ErrArg}, {memory{3, []api.Triple{{A: 3, B: 4, C: 1}}}, api.ErrArg}, {memory{3, []api.Triple{{A: -1, B: 1, C: 2}}}, api.ErrArg},
		{memory{3, []api.Triple{{A: 0, B: 1, C: -1}}}, api.ErrArg}, {memory{3, []api.Triple{{A: -2, B: -1, C: 0}}}, api.ErrArg}, {memory{8, []api.Triple{{A: math.MinInt, B: math.MaxInt, C: 0}}}, api.ErrArg}, {memory{8, []api.Triple{{A: 0, B: 1, C: 1<<32 + 2}}}, api.ErrArg},
	} {
		whole := 1<<c.n - 1
		q := asked{c.memory, randomTrees(1, c.n)[0], randomTrees(1, c.n)[0], 0, 0, whole}
		for _, set := range []int{whole, 0, whole + 1} {
			q.set = set
			errs := results(t, q)
			for _, i := range []int{1, 3, 4, 5, 6} {
				if errs[i] != c.err {
					t.Error(q, "function", i, errs[i])
				}
			}
		}
		q.tree = "?"
		if errs := results(t, q); errs[1] != api.ErrForm {
			t.Error(q, errs)
		}
	}
	// These are at the limits.
	for _, m := range []memory{{3, slices.Repeat([]api.Triple{good}, 60)}, {8, slices.Repeat([]api.Triple{{A: 6, B: 7, C: 0}}, 60)}, {8, []api.Triple{{A: 0, B: 7, C: 6}}}, {8, []api.Triple{{A: 0, B: 1, C: 7}}}, {8, []api.Triple{}}} {
		if tree, e := breed.Build(m.n, m.triples); !slowIsTree(m.n, tree) || e != api.OK {
			t.Error(m, tree, e)
		}
	}
}

func TestNotTrees(t *testing.T) {
	good := "((0,1),2)"
	for _, text := range notThrees {
		if breed.IsTree(3, text) {
			t.Errorf("%q", text)
		}
		for _, m := range []memory{{3, nil}, {3, make([]api.Triple, 61)}, {3, make([]api.Triple, 1)}} {
			for _, set := range []int{0, 7, 8} {
				errs := results(t, asked{m, text, good, set - 1, set, set})
				other := results(t, asked{m, good, text, 0, 0, set})
				if errs[0] != api.ErrForm || errs[1] != api.ErrForm || errs[2] != api.ErrForm || errs[7] != api.ErrForm || errs[8] != api.ErrForm || other[8] != api.ErrForm || other[0] != api.OK {
					t.Errorf("%q %v %v", text, errs, other)
				}
			}
		}
	}
}

func TestNotBeastsOrSets(t *testing.T) {
	for _, x := range []int{-1, 3, 4, 8, 63, 64, 1 << 32, math.MinInt, math.MaxInt} {
		for _, c := range [][2]int{{x, 0}, {2, x}, {x, x}} {
			if family, e := breed.Family(3, "((0,1),2)", c[0], c[1]); family != 0 || e != api.ErrArg {
				t.Error(c, family, e)
			}
		}
	}
	for _, set := range []int{0, -1, 8, 9, 255, 256, 1<<32 + 1, math.MinInt, math.MaxInt} {
		if kept, e := breed.Kept(3, "((0,1),2)", set); kept != "" || e != api.ErrArg {
			t.Error(set, kept, e)
		}
		if joined, e := breed.Joined(3, nil, set); len(joined) != 0 || e != api.ErrArg {
			t.Error(set, joined, e)
		}
	}
}

func TestIsTree(t *testing.T) {
	for n := 1; n <= 7; n++ {
		for i, tree := range allTrees(n) {
			if n == 7 && i%8 != 0 {
				continue
			}
			for k := range 9 {
				if breed.IsTree(k, tree) != (k == n) {
					t.Fatal(k, tree)
				}
			}
		}
	}
	for _, tree := range slices.Concat(eights, randomTrees(1000, 8)) {
		if !breed.IsTree(8, tree) || breed.IsTree(7, tree) || breed.IsTree(9, tree) {
			t.Error(tree)
		}
	}
	for _, c := range []struct {
		n    int
		text string
	}{
		{1, ""}, {1, "1"}, {1, "(0)"}, {1, "00"}, {1, "0,0"}, {1, "()"}, {2, "0"}, {2, "01"}, {2, "0,1"}, {2, "(1,0)"}, {2, "(0,0)"}, {2, "((0,1))"}, {2, "((0),(1))"}, {4, "((1,2),(0,3))"}, {4, "((0,3),(2,1))"}, {4, "((0,1),(1,2),3)"}, {4, "((0,1),(2,3)"},
		{8, "(0,1,2,3,4,5,6,8)"}, {8, "(1,2,3,4,5,6,7,8)"}, {8, "(0,1,2,3,4,5,6,7,8)"}, {8, "(0,1,2,3,4,5,6,7,7)"}, {8, "((((((((0,1),2),3),4),5),6),7))"}, {8, "((((((((0,1),2),3),4),5),6),7)"}, {8, "(0,1,(2,(3,4)),(5,7),7)"},
	} {
		if breed.IsTree(c.n, c.text) {
			t.Error(c)
		}
	}
}

// TestIsTreeAll looks at all short texts.
func TestIsTreeAll(t *testing.T) {
	texts := []string{""}
	for i := 0; i < len(texts); i++ {
		for n := 1; n <= 3; n++ {
			if breed.IsTree(n, texts[i]) != slowIsTree(n, texts[i]) {
				t.Fatalf("%d %q", n, texts[i])
			}
		}
		if len(texts[i]) < 7 {
			for _, letter := range []string{"(", ")", ",", "0", "1", "2"} {
				texts = append(texts, texts[i]+letter)
			}
		}
	}
}

// TestIsTreeChanged looks at trees with a letter more, less, or changed, and with two letters exchanged.
func TestIsTreeChanged(t *testing.T) {
	trees := [][]string{nil, allTrees(1), allTrees(2), allTrees(3), allTrees(4), allTrees(5), randomTrees(100, 6), randomTrees(100, 7), append(randomTrees(100, 8), eights...)}
	for n, list := range trees {
		for _, tree := range list {
			for i := range len(tree) + 1 {
				var texts []string
				for _, letter := range []string{"", "(", ")", ",", "0", "1", "2", "3", "4", "5", "6", "7", "8", " "} {
					texts = append(texts, tree[:i]+letter+tree[i:])
					if i < len(tree) {
						texts = append(texts, tree[:i]+letter+tree[i+1:])
					}
				}
				for k := i + 1; k < len(tree); k++ {
					texts = append(texts, tree[:i]+tree[k:k+1]+tree[i+1:k]+tree[i:i+1]+tree[k+1:])
				}
				for _, text := range texts {
					if breed.IsTree(n, text) != slowIsTree(n, text) {
						t.Fatalf("%d %q", n, text)
					}
				}
			}
		}
	}
}

// TestP1Deep asks for trees of texts that are nested deeply, or long.
func TestP1Deep(t *testing.T) {
	for _, length := range []int{20, 30, 1000, 1 << 16, 1 << 25} {
		for _, text := range []string{
			strings.Repeat("(", length), strings.Repeat("(0,", length/2), strings.Repeat("(", length) + "0" + strings.Repeat(")", length), strings.Repeat(")", length), strings.Repeat("0", length), strings.Repeat("0,", length/2),
			strings.Repeat("(", length) + "(0,1)" + strings.Repeat(")", length), "(" + strings.Repeat("0,", length/2) + "1)", "(0,1)" + strings.Repeat(" ", length), "(0," + strings.Repeat("(", length),
		} {
			for n := 1; n <= 8; n++ {
				if breed.IsTree(n, text) {
					t.Error(n, length, text[:20])
				}
			}
			if agree, e := breed.Agree(2, "(0,1)", text); agree != 0 || e != api.ErrForm {
				t.Error(length, text[:20], agree, e)
			}
		}
	}
}

// TestP1Any calls the functions with anything: none of them panics, and what the chapter refuses is refused.
func TestP1Any(t *testing.T) {
	r := rand.New(rand.NewPCG(19, 20))
	// some is in range more often than not.
	some := func(n int) int {
		if r.IntN(10) == 0 {
			return wild[r.IntN(len(wild))]
		}
		return r.IntN(max(1, n))
	}
	text := func(n int) string {
		switch {
		case r.IntN(8) == 0:
			return notThrees[r.IntN(len(notThrees))]
		case n < 1 || n > 8 || r.IntN(8) == 0:
			return eights[r.IntN(len(eights))]
		}
		tree := randomTree(r, 1<<n-1)
		if r.IntN(4) == 0 {
			i := r.IntN(len(tree))
			return tree[:i] + []string{"", "(", ")", ",", "0", "9"}[r.IntN(6)] + tree[i+r.IntN(2):]
		}
		return tree
	}
	for range 20000 {
		m := memory{n: 1 + some(8)}
		if r.IntN(2) == 0 && m.n >= 3 && m.n <= 8 {
			from := slowTriples(m.n, randomTree(r, 1<<m.n-1))
			r.Shuffle(len(from), func(i, k int) { from[i], from[k] = from[k], from[i] })
			m.triples = from[:r.IntN(len(from)+1)]
		} else {
			for range min(some(12)+some(60)/10, 70) {
				a, b, c := some(m.n), some(m.n), some(m.n)
				if r.IntN(30) > 0 {
					a, b = min(a, b), max(a, b)
				}
				if t := (api.Triple{A: a, B: b, C: c}); a != b && a != c && b != c || r.IntN(30) == 0 {
					m.triples = append(m.triples, t)
				}
			}
		}
		q := asked{m, text(m.n), text(m.n), some(m.n), some(m.n), some(1 << max(0, min(m.n, 10)))}
		if got, want := results(t, q), wantErrors(q); !slices.Equal(got, want) || breed.IsTree(q.n, q.tree) != slowIsTree(q.n, q.tree) {
			t.Errorf("%+v: %v, not %v", q, got, want)
		}
	}
}

// twice calls a function two times, and changes what the first call returned: nothing is kept or shared.
func twice[E comparable](t *testing.T, f func() ([]E, api.Errno)) {
	t.Helper()
	first, e := f()
	kept := slices.Clone(first)
	clear(first[:cap(first)])
	if second, g := f(); !slices.Equal(second, kept) || e != g {
		t.Error(kept, second, e, g)
	}
}

func TestP2Same(t *testing.T) {
	for i, m := range manyMemories(1500, 8) {
		if m.n == 4 && i%9 != 0 {
			continue
		}
		// There is room behind the list.
		whole := make([]api.Triple, len(m.triples)+4)
		copy(whole, m.triples)
		before := slices.Clone(whole)
		triples := whole[:len(m.triples)]
		tree := randomTrees(1, m.n)[0]
		twice(t, func() ([]api.Triple, api.Errno) { return breed.Closure(m.n, triples) })
		twice(t, func() ([]api.Triple, api.Errno) { return breed.Triples(m.n, tree) })
		for set := 1; set < 1<<m.n; set += 3 {
			twice(t, func() ([]int, api.Errno) { return breed.Joined(m.n, triples, set) })
		}
		q := asked{memory{m.n, triples}, tree, randomTrees(2, m.n)[1], 0, m.n - 1, 1}
		if first, second := results(t, q), results(t, q); !slices.Equal(first, second) {
			t.Error(q, first, second)
		}
		if !slices.Equal(whole, before) {
			t.Error("changed:", before, whole)
		}
	}
}

func TestP5_1Family(t *testing.T) {
	for _, c := range []struct {
		n          int
		tree       string
		a, b, want int
	}{
		{1, "0", 0, 0, 1}, {2, "(0,1)", 0, 0, 1}, {2, "(0,1)", 1, 1, 2}, {2, "(0,1)", 0, 1, 3}, {2, "(0,1)", 1, 0, 3}, {3, "((0,1),2)", 0, 1, 3}, {3, "((0,1),2)", 1, 0, 3}, {3, "((0,1),2)", 0, 2, 7}, {3, "((0,1),2)", 2, 1, 7}, {3, "((0,1),2)", 2, 2, 4},
		{3, "(0,1,2)", 0, 1, 7}, {3, "((0,2),1)", 2, 0, 5}, {3, "(0,(1,2))", 1, 2, 6}, {4, "(((0,1),2),3)", 1, 2, 7}, {4, "(((0,1),2),3)", 3, 0, 15}, {4, "((0,3),(1,2))", 0, 3, 9}, {4, "((0,3),(1,2))", 2, 1, 6}, {4, "((0,3),(1,2))", 3, 2, 15},
		{8, even, 0, 4, 17}, {8, even, 5, 0, 51}, {8, even, 6, 3, 204}, {8, even, 1, 2, 255}, {8, mixed, 3, 7, 168}, {8, mixed, 7, 0, 169}, {8, mixed, 4, 2, 84}, {8, mixed, 6, 2, 68}, {8, mixed, 1, 0, 255}, {8, mixed, 1, 1, 2}, {8, star, 6, 7, 255}, {8, star, 7, 7, 128},
	} {
		if family, e := breed.Family(c.n, c.tree, c.a, c.b); family != c.want || e != api.OK {
			t.Error(c, family, e)
		}
	}
}

func TestP5_1Triples(t *testing.T) {
	for _, c := range []struct {
		n    int
		tree string
		want []api.Triple
	}{
		{1, "0", nil}, {2, "(0,1)", nil}, {3, "(0,1,2)", nil}, {3, "((0,1),2)", []api.Triple{{A: 0, B: 1, C: 2}}}, {3, "((0,2),1)", []api.Triple{{A: 0, B: 2, C: 1}}}, {3, "(0,(1,2))", []api.Triple{{A: 1, B: 2, C: 0}}},
		{4, "(((0,1),2),3)", []api.Triple{{A: 0, B: 1, C: 2}, {A: 0, B: 1, C: 3}, {A: 0, B: 2, C: 3}, {A: 1, B: 2, C: 3}}}, {4, "((0,3),(1,2))", []api.Triple{{A: 0, B: 3, C: 1}, {A: 0, B: 3, C: 2}, {A: 1, B: 2, C: 0}, {A: 1, B: 2, C: 3}}},
		{4, "((0,1,3),2)", []api.Triple{{A: 0, B: 1, C: 2}, {A: 0, B: 3, C: 2}, {A: 1, B: 3, C: 2}}}, {4, "(0,(1,3),2)", []api.Triple{{A: 1, B: 3, C: 0}, {A: 1, B: 3, C: 2}}}, {8, star, nil},
	} {
		if triples, e := breed.Triples(c.n, c.tree); !slices.Equal(triples, c.want) || e != api.OK {
			t.Error(c, triples, e)
		}
	}
	for _, tree := range []string{chain, even, outside} {
		if triples, e := breed.Triples(8, tree); len(triples) != 56 || e != api.OK {
			t.Error(tree, len(triples), e)
		}
	}
}

func TestP5_1Shows(t *testing.T) {
	for _, c := range []struct {
		n       int
		tree    string
		triples []api.Triple
		want    bool
	}{
		{1, "0", nil, true}, {2, "(0,1)", []api.Triple{}, true}, {3, "(0,1,2)", nil, true}, {3, "(0,1,2)", []api.Triple{{A: 0, B: 1, C: 2}}, false}, {3, "((0,1),2)", []api.Triple{{A: 0, B: 1, C: 2}}, true}, {3, "((0,1),2)", []api.Triple{{A: 0, B: 2, C: 1}}, false},
		{3, "((0,1),2)", []api.Triple{{A: 1, B: 2, C: 0}}, false}, {3, "((0,1),2)", []api.Triple{{A: 0, B: 1, C: 2}, {A: 0, B: 1, C: 2}}, true}, {3, "((0,1),2)", []api.Triple{{A: 0, B: 1, C: 2}, {A: 0, B: 2, C: 1}}, false}, {3, "((0,1),2)", []api.Triple{{A: 0, B: 2, C: 1}, {A: 0, B: 1, C: 2}}, false},
		{8, even, []api.Triple{{A: 0, B: 5, C: 2}, {A: 1, B: 5, C: 4}, {A: 3, B: 7, C: 6}}, true}, {8, even, []api.Triple{{A: 0, B: 5, C: 4}}, false}, {8, chain, slices.Repeat([]api.Triple{{A: 0, B: 6, C: 7}}, 60), true},
	} {
		if shows, e := breed.Shows(c.n, c.tree, c.triples); shows != c.want || e != api.OK {
			t.Error(c, shows, e)
		}
	}
}

// TestP5_1All looks at all trees of up to six beasts, and at others of up to eight.
func TestP5_1All(t *testing.T) {
	for n := 1; n <= 8; n++ {
		trees := append(randomTrees(300, n), eights...)
		if n <= 6 {
			trees = allTrees(n)
		}
		for _, tree := range trees {
			if !slowIsTree(n, tree) {
				continue
			}
			for a := range n {
				for b := range n {
					if family, e := breed.Family(n, tree, a, b); family != slowFamily(tree, a, b) || e != api.OK {
						t.Fatal(n, tree, a, b, family, e)
					}
				}
			}
			want := slowTriples(n, tree)
			if triples, e := breed.Triples(n, tree); !slices.Equal(triples, want) || e != api.OK {
				t.Fatal(n, tree, triples, want, e)
			}
			for _, triple := range allTriples(n) {
				if shows, e := breed.Shows(n, tree, []api.Triple{triple}); shows != slices.Contains(want, triple) || e != api.OK {
					t.Fatal(n, tree, triple, shows, e)
				}
			}
		}
	}
	for i, m := range randomMemories(6000, 8) {
		for _, tree := range []string{randomTrees(i%20+1, m.n)[i%20], randomTrees(1, m.n)[0]} {
			if shows, e := breed.Shows(m.n, tree, m.triples); shows != slowShowsAll(tree, m.triples) || e != api.OK {
				t.Fatal(m, tree, shows, e)
			}
		}
	}
}

func TestP5_2Joined(t *testing.T) {
	crossed := []api.Triple{{A: 0, B: 3, C: 1}, {A: 1, B: 2, C: 0}}
	row := []api.Triple{{A: 0, B: 1, C: 7}, {A: 1, B: 2, C: 7}, {A: 2, B: 3, C: 7}, {A: 5, B: 6, C: 7}, {A: 4, B: 5, C: 0}}
	for _, c := range []struct {
		memory
		set  int
		want []int
	}{
		{memory{1, nil}, 1, []int{1}}, {memory{2, nil}, 3, []int{1, 2}}, {memory{3, nil}, 7, []int{1, 2, 4}}, {memory{3, nil}, 5, []int{1, 4}}, {memory{3, nil}, 4, []int{4}}, {memory{3, crossed[:0]}, 6, []int{2, 4}},
		{memory{4, crossed}, 15, []int{6, 9}}, {memory{4, crossed}, 7, []int{1, 6}}, {memory{4, crossed}, 11, []int{2, 9}}, {memory{4, crossed}, 9, []int{1, 8}}, {memory{4, crossed}, 6, []int{2, 4}}, {memory{4, crossed}, 14, []int{2, 4, 8}}, {memory{4, crossed}, 8, []int{8}},
		{memory{3, []api.Triple{{A: 0, B: 1, C: 2}, {A: 1, B: 2, C: 0}}}, 7, []int{7}}, {memory{3, []api.Triple{{A: 0, B: 1, C: 2}, {A: 1, B: 2, C: 0}}}, 3, []int{1, 2}}, {memory{3, []api.Triple{{A: 0, B: 2, C: 1}, {A: 0, B: 2, C: 1}}}, 7, []int{2, 5}},
		{memory{8, row}, 255, []int{15, 112, 128}}, {memory{8, row}, 127, []int{1, 2, 4, 8, 48, 64}}, {memory{8, row}, 254, []int{2 + 4 + 8, 16, 96, 128}}, {memory{8, row}, 253, []int{1, 12, 112, 128}}, {memory{8, nil}, 255, []int{1, 2, 4, 8, 16, 32, 64, 128}},
		{memory{8, []api.Triple{{A: 0, B: 7, C: 1}, {A: 1, B: 6, C: 0}, {A: 2, B: 5, C: 0}, {A: 3, B: 4, C: 0}}}, 255, []int{24, 36, 66, 129}}, {memory{8, []api.Triple{{A: 0, B: 1, C: 2}, {A: 2, B: 3, C: 4}, {A: 1, B: 3, C: 0}}}, 31, []int{15, 16}},
	} {
		if parts, e := breed.Joined(c.n, c.triples, c.set); !slices.Equal(parts, c.want) || e != api.OK {
			t.Error(c, parts, e)
		}
	}
	for _, m := range manyMemories(3000, 8) {
		for set := 1; set < 1<<m.n; set++ {
			if parts, e := breed.Joined(m.n, m.triples, set); !slices.Equal(parts, slowJoined(m.triples, set)) || e != api.OK {
				t.Fatal(m, set, parts, e)
			}
		}
	}
}

func TestP5_3Build(t *testing.T) {
	for _, c := range []struct {
		memory
		want string
		err  api.Errno
		knot int
	}{
		{memory{1, nil}, "0", api.OK, 0}, {memory{2, nil}, "(0,1)", api.OK, 0}, {memory{3, nil}, "(0,1,2)", api.OK, 0}, {memory{8, nil}, star, api.OK, 0}, {memory{3, []api.Triple{{A: 0, B: 1, C: 2}}}, "((0,1),2)", api.OK, 0}, {memory{3, []api.Triple{{A: 1, B: 2, C: 0}}}, "(0,(1,2))", api.OK, 0},
		{memory{3, []api.Triple{{A: 0, B: 2, C: 1}, {A: 0, B: 2, C: 1}}}, "((0,2),1)", api.OK, 0}, {memory{3, []api.Triple{{A: 0, B: 1, C: 2}, {A: 1, B: 2, C: 0}}}, "", api.ErrPlan, 7}, {memory{4, []api.Triple{{A: 0, B: 1, C: 2}, {A: 1, B: 2, C: 3}}}, "(((0,1),2),3)", api.OK, 0},
		{memory{4, []api.Triple{{A: 0, B: 3, C: 1}, {A: 1, B: 2, C: 0}}}, "((0,3),(1,2))", api.OK, 0}, {memory{4, []api.Triple{{A: 1, B: 3, C: 0}}}, "(0,(1,3),2)", api.OK, 0}, {memory{4, []api.Triple{{A: 0, B: 1, C: 2}, {A: 2, B: 3, C: 0}, {A: 1, B: 2, C: 3}}}, "", api.ErrPlan, 15},
		{memory{5, []api.Triple{{A: 0, B: 1, C: 4}, {A: 1, B: 4, C: 0}, {A: 1, B: 2, C: 3}, {A: 2, B: 3, C: 1}}}, "", api.ErrPlan, 14}, {memory{5, []api.Triple{{A: 0, B: 1, C: 2}, {A: 0, B: 3, C: 2}, {A: 1, B: 3, C: 0}}}, "((0,(1,3)),2,4)", api.OK, 0},
		{memory{8, []api.Triple{{A: 0, B: 7, C: 1}, {A: 1, B: 6, C: 0}, {A: 2, B: 5, C: 0}, {A: 3, B: 4, C: 0}}}, "((0,7),(1,6),(2,5),(3,4))", api.OK, 0}, {memory{8, []api.Triple{{A: 5, B: 6, C: 7}, {A: 6, B: 7, C: 5}}}, "", api.ErrPlan, 224},
		{memory{5, []api.Triple{{A: 0, B: 1, C: 2}, {A: 1, B: 2, C: 0}, {A: 3, B: 4, C: 0}}}, "", api.ErrPlan, 7}, {memory{5, []api.Triple{{A: 2, B: 3, C: 4}, {A: 3, B: 4, C: 2}, {A: 2, B: 3, C: 0}}}, "", api.ErrPlan, 28},
	} {
		if tree, e := breed.Build(c.n, c.triples); tree != c.want || e != c.err {
			t.Error(c, tree, e)
		}
		if knot, e := breed.Knot(c.n, c.triples); knot != c.knot || (e == api.OK) != (c.err == api.ErrPlan) || (e == api.ErrPlan) != (c.err == api.OK) {
			t.Error(c, "knot", knot, e)
		}
	}
}

// TestP5_3To4All holds Build and Knot against the chapter's words.
func TestP5_3To4All(t *testing.T) {
	for _, m := range manyMemories(8000, 8) {
		want, ok := slowBuild(m.triples, 1<<m.n-1)
		if tree, e := breed.Build(m.n, m.triples); tree != want || ok && e != api.OK || !ok && e != api.ErrPlan {
			t.Fatal(m, tree, want, e)
		}
		least := slowKnot(m.n, m.triples)
		if knot, e := breed.Knot(m.n, m.triples); knot != least || least > 0 && e != api.OK || least == 0 && e != api.ErrPlan {
			t.Fatal(m, knot, least, e)
		}
	}
}

func TestP5_5Closure(t *testing.T) {
	first, second := api.Triple{A: 0, B: 1, C: 2}, api.Triple{A: 1, B: 2, C: 3}
	for _, c := range []struct {
		memory
		want []api.Triple
		err  api.Errno
	}{
		{memory{1, nil}, nil, api.OK}, {memory{2, nil}, nil, api.OK}, {memory{3, nil}, nil, api.OK}, {memory{8, nil}, nil, api.OK}, {memory{3, []api.Triple{first}}, []api.Triple{first}, api.OK}, {memory{8, []api.Triple{first, first}}, []api.Triple{first}, api.OK},
		{memory{3, []api.Triple{first, {A: 1, B: 2, C: 0}}}, nil, api.ErrPlan}, {memory{4, []api.Triple{second, first}}, []api.Triple{first, {A: 0, B: 1, C: 3}, {A: 0, B: 2, C: 3}, second}, api.OK}, {memory{4, []api.Triple{{A: 0, B: 1, C: 3}, first}}, []api.Triple{first, {A: 0, B: 1, C: 3}}, api.OK},
		{memory{4, []api.Triple{first, {A: 2, B: 3, C: 1}}}, []api.Triple{first, {A: 0, B: 1, C: 3}, {A: 2, B: 3, C: 0}, {A: 2, B: 3, C: 1}}, api.OK}, {memory{5, []api.Triple{{A: 3, B: 4, C: 0}, {A: 0, B: 1, C: 4}}}, []api.Triple{{A: 0, B: 1, C: 3}, {A: 0, B: 1, C: 4}, {A: 3, B: 4, C: 0}, {A: 3, B: 4, C: 1}}, api.OK},
	} {
		if closure, e := breed.Closure(c.n, c.triples); !slices.Equal(closure, c.want) || e != c.err {
			t.Error(c, closure, e)
		}
	}
	for _, tree := range eights {
		triples := slowTriples(8, tree)
		if closure, e := breed.Closure(8, triples); !slices.Equal(closure, triples) || e != api.OK {
			t.Error(tree, closure, e)
		}
	}
}

// TestP5_5All looks at all trees for lists of up to six beasts.
func TestP5_5All(t *testing.T) {
	var trees [7][]string
	for n := 1; n <= 6; n++ {
		trees[n] = allTrees(n)
	}
	longer := 0
	for _, m := range manyMemories(800, 6) {
		want, ok := slowClosure(m.n, m.triples, trees[m.n])
		closure, e := breed.Closure(m.n, m.triples)
		if !slices.Equal(closure, want) || ok && e != api.OK || !ok && e != api.ErrPlan {
			t.Fatal(m, closure, want, e)
		}
		if m.n > 4 && len(want) > len(m.triples) {
			longer++
		}
	}
	if longer < 50 {
		t.Error("too few lists imply others:", longer)
	}
}

func TestP5_6Kept(t *testing.T) {
	for _, c := range []struct {
		n    int
		tree string
		set  int
		want string
	}{
		{1, "0", 1, "0"}, {2, "(0,1)", 1, "0"}, {2, "(0,1)", 2, "1"}, {2, "(0,1)", 3, "(0,1)"}, {4, "(((0,1),2),3)", 9, "(0,3)"}, {4, "(((0,1),2),3)", 4, "2"}, {4, "(((0,1),2),3)", 7, "((0,1),2)"}, {4, "(((0,1),2),3)", 13, "((0,2),3)"}, {4, "(((0,1),2),3)", 14, "((1,2),3)"},
		{4, "((0,3),(1,2))", 14, "((1,2),3)"}, {4, "((0,3),1,2)", 14, "(1,2,3)"}, {5, "((0,4),(1,2),3)", 30, "((1,2),3,4)"}, {6, "((0,5),(1,2),(3,4))", 38, "((1,2),5)"}, {8, "((((0,7),6),1),(2,3),(4,5))", 254, "((1,(6,7)),(2,3),(4,5))"}, {8, "((((0,7),6),1),(2,3),(4,5))", 252, "((2,3),(4,5),(6,7))"},
		{8, mixed, 255, mixed}, {8, mixed, 254, "(1,((2,6),4),(3,5,7))"}, {8, mixed, 240, "((4,6),(5,7))"}, {8, mixed, 168, "(3,5,7)"}, {8, mixed, 128, "7"}, {8, even, 85, "((0,4),(2,6))"}, {8, star, 170, "(1,3,5,7)"}, {8, chain, 170, "(((1,3),5),7)"}, {8, outside, 170, "(1,(3,(5,7)))"},
	} {
		if kept, e := breed.Kept(c.n, c.tree, c.set); kept != c.want || e != api.OK {
			t.Error(c, kept, e)
		}
	}
}

// TestP5_6KeptAll goes by the words of the chapter.
func TestP5_6KeptAll(t *testing.T) {
	for n := 1; n <= 8; n++ {
		trees := randomTrees(40, n)
		if n <= 5 {
			trees = allTrees(n)
		}
		for _, tree := range trees {
			for set := 1; set < 1<<n; set++ {
				kept, e := breed.Kept(n, tree, set)
				if kept != slowKept(tree, set) || e != api.OK {
					t.Fatal(tree, set, kept, e)
				}
				if !slowIsTree(sizeOf(set), numbered(kept, set)) {
					t.Fatal("no tree of the set:", tree, set, kept)
				}
				for _, a := range listOf(set) {
					for _, b := range listOf(set) {
						if slowFamily(kept, a, b) != slowFamily(tree, a, b)&set {
							t.Fatal(tree, set, kept, a, b)
						}
					}
				}
			}
		}
	}
}

// numbered writes the places in the set instead of the beasts; it adds a ? for a beast that is not in the set.
func numbered(tree string, set int) string {
	var out strings.Builder
	for _, letter := range tree {
		if letter >= '0' && letter <= '7' {
			if !isIn(int(letter-'0'), set) {
				out.WriteByte('?')
			}
			letter = '0' + rune(sizeOf(set%(1<<(letter-'0'))))
		}
		out.WriteRune(letter)
	}
	return out.String()
}

func TestP5_6Agree(t *testing.T) {
	for _, c := range []struct {
		n    int
		a, b string
		want int
	}{
		{1, "0", "0", 1}, {2, "(0,1)", "(0,1)", 3}, {3, "((0,1),2)", "((0,2),1)", 3}, {3, "((0,1),2)", "(0,1,2)", 3}, {3, "(0,(1,2))", "(0,(1,2))", 7}, {4, "((0,1),2,3)", "(((0,1),2),3)", 7}, {4, "(((0,1),2),3)", "(0,((1,2),3))", 14}, {4, "(((0,1),2),3)", "((0,1),(2,3))", 7},
		{4, "((0,1),(2,3))", "((0,2),(1,3))", 3}, {4, "(0,1,2,3)", "(0,(1,2,3))", 14}, {4, "((0,2),1,3)", "((0,2),(1,3))", 7}, {4, "(0,1,(2,3))", "((0,1),(2,3))", 13}, {8, chain, star, 3}, {8, chain, outside, 3}, {8, even, even, 255}, {8, chain, chain, 255},
		{8, "((0,1,2,3),(4,5,6,7))", star, 15}, {8, "((0,1),(2,3,4,5,6,7))", star, 252}, {8, "(((((((0,2),1),3),4),5),6),7)", chain, 251},
	} {
		if agree, e := breed.Agree(c.n, c.a, c.b); agree != c.want || e != api.OK {
			t.Error(c, agree, e)
		}
		if agree, e := breed.Agree(c.n, c.b, c.a); agree != c.want || e != api.OK {
			t.Error("exchanged", c, agree, e)
		}
	}
}

// TestP5_6AgreeAll holds the trees of up to four beasts against each other, and many others.
func TestP5_6AgreeAll(t *testing.T) {
	for n := 1; n <= 8; n++ {
		trees, others := randomTrees(20, n), randomTrees(40, n)[20:]
		if n <= 4 {
			trees, others = allTrees(n), allTrees(n)
		}
		for _, a := range trees {
			for _, b := range others {
				if agree, e := breed.Agree(n, a, b); agree != slowAgree(n, a, b) || e != api.OK {
					t.Fatal(n, a, b, agree, e)
				}
			}
		}
	}
}

func TestP5_7Count(t *testing.T) {
	for i, want := range []int{1, 1, 4, 26, 236, 2752, 39208, 660032} {
		if count, e := breed.Count(i + 1); count != want || e != api.OK {
			t.Error(i+1, count, e)
		}
	}
}
