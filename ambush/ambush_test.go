package ambush_test

import (
	"math"
	"math/rand/v2"
	"slices"
	"strings"
	"testing"

	"droveway/ambush"
	"droveway/api"
)

// asked is what all functions together can be asked for.
type asked struct {
	field
	position, next string
	pairs          []api.Pair
	spot           int
}

// results calls all functions, and returns their errors; with an error, nothing else may be returned.
func results(t *testing.T, a asked) []api.Errno {
	t.Helper()
	winner, e0 := ambush.Winner(a.m, a.lines, a.position, a.next)
	move, e1 := ambush.Move(a.m, a.lines, a.position, a.next)
	danger, e2 := ambush.Danger(a.m, a.lines, a.position)
	careful, e3 := ambush.Careful(a.m, a.lines, a.position)
	pairs, e4 := ambush.Pairing(a.m, a.lines)
	is, e5 := ambush.IsPairing(a.m, a.lines, a.pairs)
	answer, e6 := ambush.Answer(a.m, a.lines, a.pairs, a.spot)
	guards, e7 := ambush.Guards(a.m, a.lines)
	needs, e8 := ambush.Needs(a.m, a.lines)
	least, e9 := ambush.Least(a.m, a.lines)
	if e0 != api.OK && winner != "" || e1 != api.OK && move != 0 || e2 != api.OK && danger != 0 || e3 != api.OK && careful != 0 || e4 != api.OK && len(pairs) != 0 ||
		e5 != api.OK && is || e6 != api.OK && answer != 0 || e7 != api.OK && len(guards) != 0 || e8 != api.OK && needs != 0 || e9 != api.OK && len(least) != 0 {
		t.Error("results with an error", a)
	}
	return []api.Errno{e0, e1, e2, e3, e4, e5, e6, e7, e8, e9}
}

// wantErrors goes by the words of the chapter.
func wantErrors(a asked) []api.Errno {
	if e := slowFieldError(a.field); e != api.OK {
		return slices.Repeat([]api.Errno{e}, 10)
	}
	want := make([]api.Errno, 10)
	switch {
	case !slowIsPosition(a.m, a.position):
		copy(want, []api.Errno{api.ErrForm, api.ErrForm, api.ErrForm, api.ErrForm})
	default:
		if a.next != "w" && a.next != "d" {
			want[0], want[1] = api.ErrForm, api.ErrForm
		} else if slowWon(a.field, a.position) || !strings.Contains(a.position, ".") {
			want[1] = api.ErrState
		}
		if !strings.Contains(a.position, ".") {
			want[3] = api.ErrState
		}
	}
	if _, ok := slowPairing(a.field, pairLists(a.m)); !ok {
		want[4] = api.ErrPlan
	}
	if !slowIsPairing(a.field, a.pairs) || a.spot < 0 || a.spot >= a.m {
		want[6] = api.ErrArg
	}
	if len(a.lines) == 0 {
		want[8] = api.ErrPlan
	}
	return want
}

func TestNotFields(t *testing.T) {
	for _, f := range notFields {
		for _, a := range []asked{
			{field: f.field, position: "...", next: "w"}, {field: f.field, position: "", next: ""}, {field: f.field, position: "xyz", next: "x", pairs: []api.Pair{{A: 1, B: 1}}, spot: -1},
			{field: f.field, position: "www", next: "d"}, {field: f.field, position: empty(9), next: "w"}, {field: f.field, position: empty(10), next: "w"},
		} {
			for i, e := range results(t, a) {
				if e != f.err {
					t.Error(a, "function", i, e)
				}
			}
		}
	}
}

// TestFields are at the limits.
func TestFields(t *testing.T) {
	for _, f := range append(namedFields(), field{1, slices.Repeat([]int{1}, 12)}, field{9, slices.Repeat([]int{1, 511}, 6)}) {
		for i, e := range results(t, asked{field: f, position: empty(f.m), next: "w"}) {
			if e != api.OK && i != 4 && i != 6 && i != 8 {
				t.Error(f, "function", i, e)
			}
		}
	}
}

func TestNotPositions(t *testing.T) {
	for _, p := range notPositions {
		for _, f := range []field{triangle, {3, nil}, {3, []int{1}}} {
			for _, next := range []string{"w", "d", "x"} {
				for i, e := range results(t, asked{field: f, position: p, next: next})[:4] {
					if e != api.ErrForm {
						t.Errorf("%v %q %q function %d: %d", f, p, next, i, e)
					}
				}
			}
		}
	}
}

func TestNotNext(t *testing.T) {
	for _, next := range notNext {
		for _, p := range []string{"...", "w..", "ww.", "www", "ddd", "wdw"} {
			errs := results(t, asked{field: triangle, position: p, next: next})
			if errs[0] != api.ErrForm || errs[1] != api.ErrForm || errs[2] != api.OK || (errs[3] == api.OK) != strings.Contains(p, ".") {
				t.Errorf("%q %q: %v", p, next, errs)
			}
		}
	}
}

// TestP1Any calls the functions with anything: none of them panics, and what the chapter refuses is refused.
func TestP1Any(t *testing.T) {
	wild := []int{math.MinInt, math.MinInt + 1, -1 << 62, -1 << 32, -64, -2, -1, 0, 1, 2, 3, 4, 5, 6, 7, 8, 9, 10, 63, 64, 511, 512, 1 << 32, 1<<32 + 1, 1 << 62, math.MaxInt - 1, math.MaxInt}
	r := rand.New(rand.NewPCG(13, 14))
	any := func() int { return wild[r.IntN(len(wild))] }
	// some is in range more often than not.
	some := func(n int) int {
		if r.IntN(8) == 0 {
			return any()
		}
		return r.IntN(n)
	}
	texts := slices.Concat(notPositions, notNext, []string{"w", "d", "www", "ddd", "..."})
	for range 20000 {
		a := asked{field: field{m: some(6)}, next: []string{"w", "d"}[r.IntN(2)], spot: some(6)}
		for range some(4) % 15 {
			a.lines = append(a.lines, some(1<<max(1, min(a.m, 9))))
		}
		for range r.IntN(3) {
			a.pairs = append(a.pairs, api.Pair{A: some(5), B: some(5)})
		}
		for range min(max(a.m, 0), 10) {
			a.position += []string{"w", "d", ".", ".", "."}[r.IntN(5)]
		}
		if r.IntN(6) == 0 {
			a.position = texts[r.IntN(len(texts))]
		}
		if r.IntN(6) == 0 {
			a.next = texts[r.IntN(len(texts))]
		}
		if got, want := results(t, a), wantErrors(a); !slices.Equal(got, want) {
			t.Errorf("%+v: %v, not %v", a, got, want)
		}
	}
}

// spare returns the list with room behind it, and the whole of its memory.
func spare[E any](list []E) ([]E, []E) {
	whole := make([]E, len(list)+4)
	copy(whole, list)
	return whole[:len(list)], whole
}

// twice calls a function two times, and changes what the first call returned: nothing is kept or shared.
func twice[E comparable](t *testing.T, f func() ([]E, api.Errno)) {
	t.Helper()
	first, e := f()
	kept := slices.Clone(first)
	clear(first[:cap(first)])
	if second, g := f(); !slices.Equal(second, kept) || e != g {
		t.Error(kept, second, e, g)
	}
}

func TestP2Same(t *testing.T) {
	for _, f := range manyFields(100, 9) {
		lines, whole := spare(f.lines)
		before := slices.Clone(whole)
		twice(t, func() ([]api.Pair, api.Errno) { return ambush.Pairing(f.m, lines) })
		twice(t, func() ([]int, api.Errno) { return ambush.Guards(f.m, lines) })
		twice(t, func() ([]int, api.Errno) { return ambush.Least(f.m, lines) })
		pairing, _ := ambush.Pairing(f.m, lines)
		pairs, wholePairs := spare(pairing)
		beforePairs := slices.Clone(wholePairs)
		a := asked{field{f.m, lines}, empty(f.m), "w", pairs, 0}
		if first, second := results(t, a), results(t, a); !slices.Equal(first, second) {
			t.Error(a, first, second)
		}
		if !slices.Equal(whole, before) || !slices.Equal(wholePairs, beforePairs) {
			t.Error("changed:", before, whole, beforePairs, wholePairs)
		}
	}
}

func TestP4_1Winner(t *testing.T) {
	for _, c := range []struct {
		field
		position, next, want string
		move                 int
	}{
		{noLines, ".", "w", "d", 0}, {noLines, ".", "d", "d", 0}, {bare, "wwwww.www", "w", "d", 5}, {bare, "ddd...ddd", "d", "d", 3},
		{field{1, []int{1}}, ".", "w", "w", 0}, {field{1, []int{1}}, ".", "d", "d", 0},
		{two, "..", "w", "d", 0}, {two, "..", "d", "d", 0}, {two, "w.", "w", "w", 1}, {two, "w.", "d", "d", 1}, {two, "d.", "w", "d", 1}, {two, ".d", "d", "d", 0}, {two, ".w", "w", "w", 0},
		{triangle, "...", "w", "w", 0}, {triangle, "...", "d", "d", 0}, {triangle, "w..", "d", "w", 1}, {triangle, "d..", "w", "d", 1}, {triangle, "d..", "d", "d", 1}, {triangle, ".dw", "d", "d", 0},
		{triangle, "..w", "w", "w", 0}, {triangle, "d.w", "w", "w", 1}, {triangle, "wd.", "w", "w", 2}, {triangle, "wd.", "d", "d", 2},
		{field{3, []int{4}}, "...", "w", "w", 2}, {field{3, []int{4}}, "...", "d", "d", 2}, {field{3, []int{4, 2}}, "...", "d", "w", 0}, {field{3, []int{4, 2}}, "...", "w", "w", 0}, {field{3, []int{4, 2}}, "d..", "w", "w", 1},
		{field{3, []int{6}}, "w..", "d", "d", 1}, {field{3, []int{6}}, "...", "w", "d", 0}, {field{3, []int{6}}, "d..", "d", "d", 1}, {field{3, []int{6}}, ".w.", "d", "d", 2},
		{fano, ".......", "w", "w", 0}, {fano, ".......", "d", "d", 0}, {square, ".........", "w", "w", 0}, {square, ".........", "d", "d", 0}, {square, "d........", "w", "d", 1}, {square, ".d.......", "w", "w", 4}, {square, "....d....", "w", "d", 0},
		{square, "....w....", "d", "w", 0}, {square, "ww.dd....", "d", "d", 2}, {square, "ww.dd....", "w", "w", 2}, {dense, ".........", "d", "w", 0}, {long, ".........", "w", "d", 0}, {long, "wwwwwwww.", "w", "w", 8},
	} {
		if who, e := ambush.Winner(c.m, c.lines, c.position, c.next); who != c.want || e != api.OK {
			t.Error(c, who, e)
		}
		if move, e := ambush.Move(c.m, c.lines, c.position, c.next); move != c.move || e != api.OK {
			t.Error(c, "move", move, e)
		}
	}
}

// TestP4_1Over: nobody takes a spot when the wolves have won, or when no spot is free.
func TestP4_1Over(t *testing.T) {
	for _, c := range []struct {
		field
		position, want string
	}{
		{noLines, "w", "d"}, {noLines, "d", "d"}, {field{1, []int{1}}, "w", "w"}, {field{1, []int{1}}, "d", "d"}, {two, "ww", "w"}, {two, "wd", "d"}, {two, "dd", "d"}, {bare, "wwwwwwwww", "d"},
		{triangle, "ww.", "w"}, {triangle, "wwd", "w"}, {triangle, "w.w", "w"}, {triangle, ".ww", "w"}, {triangle, "ddw", "d"}, {triangle, "www", "w"}, {repeated, "ddww", "w"}, {repeated, "dwdw", "d"},
		{square, "www......", "w"}, {square, "w.d.w.d.w", "w"}, {square, "wwdddwwdw", "d"}, {square, "ddwdwdwdd", "w"}, {long, "wwwwwwwww", "w"}, {long, "wwwwwwwwd", "d"},
	} {
		for _, next := range []string{"w", "d"} {
			if who, e := ambush.Winner(c.m, c.lines, c.position, next); who != c.want || e != api.OK {
				t.Error(c, next, who, e)
			}
			if move, e := ambush.Move(c.m, c.lines, c.position, next); move != 0 || e != api.ErrState {
				t.Error(c, next, "move", move, e)
			}
		}
	}
}

// TestP4_1All looks at all positions of many fields.
func TestP4_1All(t *testing.T) {
	for _, f := range manyFields(60, 7) {
		winners := slowWinners(f)
		for _, p := range positions(f.m) {
			for _, next := range []string{"w", "d"} {
				want := slowMove(f, winners, p, next)
				who, e := ambush.Winner(f.m, f.lines, p, next)
				move, g := ambush.Move(f.m, f.lines, p, next)
				if who != winners[next+p] || e != api.OK || g == api.OK && move != want || g != api.OK && (want != -1 || move != 0 || g != api.ErrState) {
					t.Fatal(f, p, next, who, e, move, want, g)
				}
			}
		}
	}
}

func TestP4_2Danger(t *testing.T) {
	for _, c := range []struct {
		field
		position      string
		want, careful int
	}{
		{two, "..", 1, 0}, {two, "w.", 2, 1}, {two, ".w", 2, 0}, {two, "d.", 0, 1}, {noLines, ".", 0, 0}, {bare, "www.wwww.", 0, 3},
		{triangle, "...", 6, 0}, {triangle, "w..", 10, 1}, {triangle, ".w.", 10, 0}, {triangle, "d..", 2, 1}, {triangle, "d.w", 4, 1}, {triangle, "ww.", 16, 2},
		{repeated, "....", 17, 0}, {field{4, []int{12, 12}}, "....", 8, 2}, {field{4, []int{12, 12}}, "..w.", 16, 3}, {field{4, []int{3, 12, 12}}, "....", 12, 2}, {field{4, []int{1, 3}}, "wd..", 16, 2},
		{field{3, []int{6}}, "...", 2, 1}, {field{3, []int{6}}, ".w.", 4, 2}, {field{3, []int{6}}, ".ww", 8, 0}, {field{3, []int{6}}, ".d.", 0, 0}, {field{3, []int{1, 6}}, "w..", 10, 1},
		{square, ".........", 512, 4}, {square, "w........", 704, 4}, {long, ".........", 12, 0}, {long, "wwwwwww.w", 12 * 256, 7},
	} {
		if danger, e := ambush.Danger(c.m, c.lines, c.position); danger != c.want || e != api.OK {
			t.Error(c, danger, e)
		}
		if spot, e := ambush.Careful(c.m, c.lines, c.position); spot != c.careful || e != api.OK {
			t.Error(c, "careful", spot, e)
		}
	}
	for _, c := range []struct {
		field
		position string
		want     int
	}{
		{noLines, "w", 0}, {field{1, []int{1}}, "w", 2}, {field{1, []int{1}}, "d", 0}, {two, "ww", 4}, {two, "wd", 0}, {triangle, "www", 24}, {triangle, "wwd", 8}, {long, "wwwwwwwww", 12 * 512}, {long, "wwwwdwwww", 0},
	} {
		if danger, e := ambush.Danger(c.m, c.lines, c.position); danger != c.want || e != api.OK {
			t.Error(c, danger, e)
		}
		if spot, e := ambush.Careful(c.m, c.lines, c.position); spot != 0 || e != api.ErrState {
			t.Error(c, "careful", spot, e)
		}
	}
}

// TestP4_2All looks at all positions of many fields.
func TestP4_2All(t *testing.T) {
	for i, f := range manyFields(100, 9) {
		for k, p := range positions(f.m) {
			if f.m > 7 && (i+k)%7 != 0 {
				continue
			}
			want := slowCareful(f, p)
			danger, e := ambush.Danger(f.m, f.lines, p)
			spot, g := ambush.Careful(f.m, f.lines, p)
			if danger != slowDanger(f, p) || e != api.OK || g == api.OK && spot != want || g != api.OK && (want != -1 || spot != 0 || g != api.ErrState) {
				t.Fatal(f, p, danger, e, spot, want, g)
			}
		}
	}
}

func TestP4_3Pairing(t *testing.T) {
	for _, c := range []struct {
		field
		want []api.Pair
		err  api.Errno
	}{
		{noLines, nil, api.OK}, {bare, nil, api.OK}, {two, []api.Pair{{A: 0, B: 1}}, api.OK}, {triangle, nil, api.ErrPlan}, {field{1, []int{1}}, nil, api.ErrPlan}, {field{9, []int{511, 256}}, nil, api.ErrPlan},
		{repeated, []api.Pair{{A: 0, B: 1}, {A: 2, B: 3}}, api.OK}, {field{4, []int{15}}, []api.Pair{{A: 0, B: 1}}, api.OK}, {field{4, []int{12}}, []api.Pair{{A: 2, B: 3}}, api.OK}, {long, []api.Pair{{A: 0, B: 1}}, api.OK},
		{field{4, []int{7, 14}}, []api.Pair{{A: 1, B: 2}}, api.OK}, {field{4, []int{3, 12, 5}}, nil, api.ErrPlan}, {field{4, []int{9, 6}}, []api.Pair{{A: 0, B: 3}, {A: 1, B: 2}}, api.OK},
		{field{5, []int{25, 7}}, []api.Pair{{A: 0, B: 1}, {A: 3, B: 4}}, api.OK}, {field{5, []int{11, 21}}, []api.Pair{{A: 0, B: 1}, {A: 2, B: 4}}, api.OK},
		{fano, nil, api.ErrPlan}, {square, nil, api.ErrPlan}, {paired, []api.Pair{{A: 0, B: 1}, {A: 2, B: 3}, {A: 4, B: 5}, {A: 6, B: 7}}, api.OK}, {dense, nil, api.ErrPlan},
	} {
		if pairs, e := ambush.Pairing(c.m, c.lines); !slices.Equal(pairs, c.want) || e != c.err {
			t.Error(c, pairs, e)
		}
	}
}

// TestP4_3PairingAll holds many fields against all lists of pairs.
func TestP4_3PairingAll(t *testing.T) {
	var lists [10][][]api.Pair
	for m := range lists {
		lists[m] = pairLists(m)
	}
	lengths := map[int]int{}
	for _, f := range manyFields(3000, 9) {
		want, ok := slowPairing(f, lists[f.m])
		pairs, e := ambush.Pairing(f.m, f.lines)
		if !slices.Equal(pairs, want) || ok && e != api.OK || !ok && e != api.ErrPlan {
			t.Fatal(f, pairs, want, e)
		}
		if ok {
			lengths[len(pairs)]++
		}
	}
	for n := range 5 {
		if lengths[n] == 0 {
			t.Error("no field has this many pairs:", n)
		}
	}
}

func TestP4_3IsPairing(t *testing.T) {
	for _, c := range []struct {
		field
		pairs []api.Pair
		want  bool
	}{
		{two, []api.Pair{{A: 0, B: 1}}, true}, {two, nil, false}, {two, []api.Pair{}, false}, {two, []api.Pair{{A: 1, B: 0}}, false}, {two, []api.Pair{{A: 0, B: 1}, {A: 0, B: 1}}, false},
		{two, []api.Pair{{A: 0, B: 2}}, false}, {two, []api.Pair{{A: -1, B: 1}}, false}, {two, []api.Pair{{A: -1, B: 0}, {A: 0, B: 1}}, false}, {two, []api.Pair{{A: 0, B: 1}, {A: 2, B: 3}}, false},
		{two, []api.Pair{{A: math.MinInt, B: 1}}, false}, {two, []api.Pair{{A: 0, B: math.MaxInt}}, false}, {two, []api.Pair{{A: math.MinInt, B: math.MaxInt}}, false}, {two, []api.Pair{{A: 1 << 32, B: 1<<32 + 1}}, false},
		{noLines, nil, true}, {noLines, []api.Pair{{A: 0, B: 0}}, false}, {noLines, []api.Pair{{A: 0, B: 1}}, false}, {bare, []api.Pair{{A: 7, B: 8}}, true}, {bare, []api.Pair{{A: 8, B: 9}}, false}, {bare, []api.Pair{{A: 8, B: 8}}, false},
		{bare, []api.Pair{{A: 0, B: 8}, {A: 1, B: 7}, {A: 2, B: 6}, {A: 3, B: 5}}, true}, {bare, []api.Pair{{A: 1, B: 7}, {A: 0, B: 8}}, false}, {bare, []api.Pair{{A: 0, B: 3}, {A: 0, B: 4}}, false},
		{bare, []api.Pair{{A: 0, B: 4}, {A: 1, B: 4}}, false}, {bare, []api.Pair{{A: 0, B: 4}, {A: 4, B: 5}}, false}, {bare, []api.Pair{{A: 0, B: 4}, {A: 1, B: 3}, {A: 2, B: 3}}, false},
		{repeated, []api.Pair{{A: 0, B: 1}, {A: 2, B: 3}}, true}, {repeated, []api.Pair{{A: 2, B: 3}, {A: 0, B: 1}}, false}, {repeated, []api.Pair{{A: 0, B: 1}}, false}, {repeated, []api.Pair{{A: 2, B: 3}}, false},
		{repeated, []api.Pair{{A: 0, B: 2}, {A: 1, B: 3}}, false}, {field{4, []int{15}}, []api.Pair{{A: 1, B: 3}}, true}, {field{4, []int{15}}, []api.Pair{{A: 0, B: 3}, {A: 1, B: 2}}, true}, {field{4, []int{7}}, []api.Pair{{A: 2, B: 3}}, false},
		{bare, slices.Repeat([]api.Pair{{A: 0, B: 1}}, 1000), false},
	} {
		if is, e := ambush.IsPairing(c.m, c.lines, c.pairs); is != c.want || e != api.OK {
			t.Error(c, is, e)
		}
	}
	for _, f := range []field{noLines, two, triangle, repeated, {2, nil}, {3, nil}, {3, []int{7}}, {4, nil}, {4, []int{15, 7}}, {4, []int{9, 6}}, {5, []int{30, 15}}} {
		isPairingAll(t, f, nil)
	}
}

// isPairingAll looks at all lists that begin with the pairs and have up to two more, or three in a small field.
func isPairingAll(t *testing.T, f field, pairs []api.Pair) {
	t.Helper()
	if is, e := ambush.IsPairing(f.m, f.lines, pairs); is != slowIsPairing(f, pairs) || e != api.OK {
		t.Fatal(f, pairs, is, e)
	}
	if len(pairs) == 3 || len(pairs) == 2 && f.m > 3 {
		return
	}
	for a := -1; a <= f.m; a++ {
		for b := -1; b <= f.m; b++ {
			isPairingAll(t, f, append(slices.Clone(pairs), api.Pair{A: a, B: b}))
		}
	}
}

func TestP4_3Answer(t *testing.T) {
	for _, c := range []struct {
		field
		pairs []api.Pair
		want  []int
	}{
		{noLines, nil, []int{-1}}, {two, []api.Pair{{A: 0, B: 1}}, []int{1, 0}}, {repeated, []api.Pair{{A: 0, B: 1}, {A: 2, B: 3}}, []int{1, 0, 3, 2}}, {field{4, []int{9, 6}}, []api.Pair{{A: 0, B: 3}, {A: 1, B: 2}}, []int{3, 2, 1, 0}},
		{field{5, []int{18}}, []api.Pair{{A: 1, B: 4}}, []int{-1, 4, -1, -1, 1}}, {paired, []api.Pair{{A: 0, B: 1}, {A: 2, B: 3}, {A: 4, B: 5}, {A: 6, B: 7}}, []int{1, 0, 3, 2, 5, 4, 7, 6, -1}},
		{bare, nil, slices.Repeat([]int{-1}, 9)}, {bare, []api.Pair{{A: 2, B: 8}}, []int{-1, -1, 8, -1, -1, -1, -1, -1, 2}},
	} {
		for spot, want := range c.want {
			if answer, e := ambush.Answer(c.m, c.lines, c.pairs, spot); answer != want || e != api.OK {
				t.Error(c, spot, answer, e)
			}
		}
		for _, spot := range []int{-1, c.m, c.m + 1, 64, math.MinInt, math.MaxInt, 1 << 32} {
			if answer, e := ambush.Answer(c.m, c.lines, c.pairs, spot); answer != 0 || e != api.ErrArg {
				t.Error(c, spot, answer, e)
			}
		}
	}
	for _, pairs := range [][]api.Pair{nil, {{A: 0, B: 1}}, {{A: 2, B: 3}, {A: 0, B: 1}}, {{A: 0, B: 2}, {A: 1, B: 3}}, {{A: 0, B: 1}, {A: 2, B: 4}}, {{A: 1, B: 0}, {A: 2, B: 3}}} {
		for spot := -1; spot <= 4; spot++ {
			if answer, e := ambush.Answer(repeated.m, repeated.lines, pairs, spot); answer != 0 || e != api.ErrArg {
				t.Error(pairs, spot, answer, e)
			}
		}
	}
}

// TestP4_3AnswerAll looks at all lists of pairs.
func TestP4_3AnswerAll(t *testing.T) {
	for _, f := range []field{two, triangle, repeated, {5, []int{31}}, {6, []int{27, 63}}, bare} {
		for _, pairs := range pairLists(f.m) {
			for spot := range f.m {
				want, err := slowAnswer(pairs, spot), api.OK
				if !slowIsPairing(f, pairs) {
					want, err = 0, api.ErrArg
				}
				if answer, e := ambush.Answer(f.m, f.lines, pairs, spot); answer != want || e != err {
					t.Fatal(f, pairs, spot, answer, e)
				}
			}
		}
	}
}

func TestP4_4Guards(t *testing.T) {
	for _, c := range []struct {
		field
		want []int
	}{
		{noLines, []int{0}}, {field{1, []int{1}}, []int{0}}, {two, []int{0, 1}}, {triangle, []int{0, 1, 2}}, {repeated, []int{0, 1, 2, 3}}, {field{3, []int{2}}, []int{1}}, {field{3, []int{2, 4}}, nil}, {field{3, []int{3, 4}}, []int{2}},
		{field{4, []int{3, 5, 9}}, []int{0}}, {field{4, []int{3, 5, 10}}, []int{0, 1}}, {fano, []int{0, 1, 2, 3, 4, 5, 6}}, {square, []int{0, 2, 4, 6, 8}}, {dense, nil}, {bare, []int{0, 1, 2, 3, 4, 5, 6, 7, 8}}, {long, []int{0, 1, 2, 3, 4, 5, 6, 7, 8}},
	} {
		if guards, e := ambush.Guards(c.m, c.lines); !slices.Equal(guards, c.want) || e != api.OK {
			t.Error(c, guards, e)
		}
	}
}

func TestP4_5Needs(t *testing.T) {
	for _, c := range []struct {
		field
		want int
		err  api.Errno
	}{
		{noLines, 0, api.ErrPlan}, {bare, 0, api.ErrPlan}, {field{3, []int{}}, 0, api.ErrPlan}, {field{1, []int{1}}, 1, api.OK}, {two, 2, api.OK}, {triangle, 1, api.OK}, {repeated, 2, api.OK}, {dense, 0, api.OK}, {long, 9, api.OK},
		{square, 1, api.OK}, {fano, 1, api.OK}, {field{3, []int{7}}, 3, api.OK}, {field{4, []int{3, 12}}, 2, api.OK}, {field{4, []int{15, 14}}, 3, api.OK}, {field{4, []int{7, 11, 13, 14}}, 2, api.OK}, {field{2, []int{1, 2}}, 0, api.OK},
	} {
		if needs, e := ambush.Needs(c.m, c.lines); needs != c.want || e != c.err {
			t.Error(c, needs, e)
		}
	}
}

// TestP4_4To5All holds Guards and Needs of many fields against all positions.
func TestP4_4To5All(t *testing.T) {
	for _, f := range manyFields(100, 8) {
		winners := slowWinners(f)
		if guards, e := ambush.Guards(f.m, f.lines); !slices.Equal(guards, slowGuards(f, winners)) || e != api.OK {
			t.Error(f, guards, e)
		}
		want := slowNeeds(f, winners)
		if needs, e := ambush.Needs(f.m, f.lines); want >= 0 && (needs != want || e != api.OK) || want < 0 && (needs != 0 || e != api.ErrPlan) {
			t.Error(f, needs, want, e)
		}
	}
}

func TestP4_6Least(t *testing.T) {
	for _, c := range []struct {
		field
		want []int
	}{
		{noLines, nil}, {bare, nil}, {two, []int{3}}, {triangle, []int{3, 5, 6}}, {repeated, []int{3, 12}}, {long, []int{511}}, {dense, []int{1, 2, 4, 8, 16, 32, 64, 128, 256}}, {paired, []int{3, 12, 48, 192}},
		{field{3, []int{6, 5, 3}}, []int{3, 5, 6}}, {field{3, []int{7, 4, 3, 4}}, []int{3, 4}}, {field{3, []int{5, 1}}, []int{1}}, {field{3, []int{1, 5}}, []int{1}}, {field{4, []int{12, 10, 12, 14, 10, 6}}, []int{6, 10, 12}}, {square, []int{7, 56, 73, 84, 146, 273, 292, 448}},
	} {
		if least, e := ambush.Least(c.m, c.lines); !slices.Equal(least, c.want) || e != api.OK {
			t.Error(c, least, e)
		}
	}
	for _, f := range manyFields(3000, 9) {
		if least, e := ambush.Least(f.m, f.lines); !slices.Equal(least, slowLeast(f)) || e != api.OK {
			t.Error(f, least, e)
		}
	}
}
