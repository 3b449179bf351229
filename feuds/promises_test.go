package feuds_test

import (
	"math"
	"math/rand/v2"
	"reflect"
	"slices"
	"testing"

	"droveway/api"
	"droveway/feuds"
)

// ok fails the test if there is an error.
func ok(t *testing.T, e api.Errno) {
	t.Helper()
	if e != api.OK {
		t.Fatal(e)
	}
}

// checkList checks a list that is nil if there is none.
func checkList(t *testing.T, what string, d drove, got []int, e api.Errno, want []int) {
	t.Helper()
	wantError := api.OK
	if want == nil {
		wantError = api.ErrPlan
	}
	if !slices.Equal(got, want) || e != wantError {
		t.Errorf("%s %v: %v %v, not %v", what, d, got, e, want)
	}
}

// checkSet checks a set that is the least of some, if there are any.
func checkSet(t *testing.T, what string, d drove, got int, e api.Errno, sets []int) {
	t.Helper()
	want, wantError := 0, api.ErrPlan
	if len(sets) > 0 {
		want, wantError = slices.Min(sets), api.OK
	}
	if got != want || e != wantError {
		t.Errorf("%s %v: %v %v, not %v", what, d, got, e, sets)
	}
}

// TestExamples has the chapter's examples, and some like them.
func TestExamples(t *testing.T) {
	first := complete(3, true)
	second := []api.Tie{{A: 0, B: 1}, {A: 0, B: 2, Feud: true}, {A: 1, B: 2, Feud: true}}
	third := []api.Tie{{A: 0, B: 1, Feud: true}, {A: 0, B: 2}, {A: 1, B: 2}}
	if set, e := feuds.Sides(3, first); set != 0 || e != api.ErrPlan {
		t.Error(set, e)
	}
	if list, e := feuds.Ring(3, first); !slices.Equal(list, []int{0, 1, 2}) || e != api.OK {
		t.Error(list, e)
	}
	if set, list, e := feuds.Least(3, first); set != 1 || !slices.Equal(list, []int{2}) || e != api.OK {
		t.Error(set, list, e)
	}
	if list, e := feuds.Clans(3, first); !slices.Equal(list, []int{1, 2, 4}) || e != api.OK {
		t.Error(list, e)
	}
	if list, e := feuds.Spoilt(3, first); len(list) != 0 || e != api.ErrPlan {
		t.Error(list, e)
	}
	if set, e := feuds.Sides(3, second); set != 3 || e != api.OK {
		t.Error(set, e)
	}
	if list, e := feuds.Ring(3, second); len(list) != 0 || e != api.ErrPlan {
		t.Error(list, e)
	}
	if list, e := feuds.Clans(3, second); !slices.Equal(list, []int{3, 4}) || e != api.OK {
		t.Error(list, e)
	}
	if count, e := feuds.Classes(3, second); count != 2 || e != api.OK {
		t.Error(count, e)
	}
	if list, e := feuds.Spoilt(3, third); !slices.Equal(list, []int{0, 1, 2}) || e != api.OK {
		t.Error(list, e)
	}
	if list, e := feuds.Clans(3, third); len(list) != 0 || e != api.ErrPlan {
		t.Error(list, e)
	}
}

func TestP9_1Sides(t *testing.T) {
	for _, d := range allDroves() {
		set, e := feuds.Sides(d.n, d.ties)
		checkSet(t, "sides", d, set, e, slowSides(d))
	}
	for n := 1; n <= 8; n++ {
		// Without ties, and if all are friends, the least set is the one without drovers.
		for _, ties := range [][]api.Tie{nil, complete(min(n, 6), false)} {
			if set, e := feuds.Sides(n, ties); set != 0 || e != api.OK {
				t.Error(n, set, e)
			}
		}
	}
}

func TestP9_1Ring(t *testing.T) {
	for _, d := range allDroves() {
		got, e := feuds.Ring(d.n, d.ties)
		checkList(t, "ring", d, got, e, slowShortest(d, isOdd))
	}
	for _, c := range []struct {
		n    int
		ties []api.Tie
		want []int
	}{
		// The least list goes on in the direction of the lesser tie.
		{4, []api.Tie{{A: 0, B: 1, Feud: true}, {A: 2, B: 3}, {A: 1, B: 2}, {A: 0, B: 3}}, []int{0, 2, 1, 3}},
		{4, []api.Tie{{A: 0, B: 1, Feud: true}, {A: 2, B: 3}, {A: 0, B: 3}, {A: 1, B: 2}}, []int{0, 2, 1, 3}},
		{4, []api.Tie{{A: 1, B: 3, Feud: true}, {A: 0, B: 1}, {A: 0, B: 3}, {A: 2, B: 3}, {A: 1, B: 2}}, []int{0, 1, 2}},
		// Three ties later are fewer than four ties before.
		{7, []api.Tie{{A: 0, B: 1, Feud: true}, {A: 1, B: 2}, {A: 2, B: 3}, {A: 0, B: 3}, {A: 4, B: 6}, {A: 5, B: 6}, {A: 4, B: 5, Feud: true}}, []int{4, 5, 6}},
		{8, around(8, 1), []int{0, 1, 2, 3, 4, 5, 6, 7}},
		{8, around(8, 7), []int{0, 1, 2, 3, 4, 5, 6, 7}},
		{7, around(7, 7), []int{0, 1, 2, 3, 4, 5, 6}},
		{8, around(8, 8), nil},
		{2, complete(2, true), nil},
	} {
		got, e := feuds.Ring(c.n, c.ties)
		checkList(t, "ring", drove{c.n, c.ties}, got, e, c.want)
	}
}

func checkIsRing(t *testing.T, d drove, list []int) {
	t.Helper()
	want, wantIs := slowRing(d.ties, list)
	if count, is, e := feuds.IsRing(d.n, d.ties, list); count != want || is != wantIs || e != api.OK {
		t.Error(d, list, count, is, e, "not", want, wantIs)
	}
}

// TestP9_2IsRing looks at all short lists of few ties, and of more ties at all rings, and at lists that nearly are one.
func TestP9_2IsRing(t *testing.T) {
	for _, d := range slices.Concat(randomDroves(5, 40, 6), []drove{{4, complete(4, true)}, {4, around(4, 1)}, {3, around(3, 2)}, {2, complete(2, true)}, {1, nil}}) {
		for length := range 6 {
			for _, list := range allLists(length, -1, len(d.ties)) {
				checkIsRing(t, d, list)
			}
		}
	}
	r := rand.New(rand.NewPCG(63, 64))
	for _, d := range slices.Concat(randomDroves(6, 60, 20), largeDroves()) {
		for _, list := range slowRings(d) {
			checkIsRing(t, d, list)
			if r.IntN(20) > 0 {
				continue
			}
			checkIsRing(t, d, list[1:])
			checkIsRing(t, d, list[:len(list)-1])
			checkIsRing(t, d, slices.Concat(list, list))
			checkIsRing(t, d, slices.Concat(list, list[:1]))
			at, other := r.IntN(len(list)), r.IntN(len(list))
			near := slices.Clone(list)
			near[at], near[other] = near[other], near[at]
			checkIsRing(t, d, near)
			near[at] = r.IntN(len(d.ties))
			checkIsRing(t, d, near)
			near[at] = wild[r.IntN(len(wild))]
			checkIsRing(t, d, near)
		}
	}
}

// TestP9_2NotRing has lists that are no rings, though each tie meets the next one.
func TestP9_2NotRing(t *testing.T) {
	for _, c := range []struct {
		n    int
		ties []api.Tie
		list []int
	}{
		// All ties are of drover 0; two rings that meet in drover 0; a ring that is gone around twice; there and back.
		{4, []api.Tie{{A: 0, B: 1}, {A: 0, B: 2}, {A: 0, B: 3}}, []int{0, 1, 2}},
		{5, []api.Tie{{A: 0, B: 1}, {A: 1, B: 2}, {A: 0, B: 2}, {A: 0, B: 3}, {A: 3, B: 4}, {A: 0, B: 4}}, []int{0, 1, 2, 3, 4, 5}},
		{3, complete(3, true), []int{0, 1, 2, 0, 1, 2}},
		{3, complete(3, true), []int{0, 1, 1, 0}},
		{3, complete(3, true), []int{0, 0, 0}},
		{3, complete(3, true), []int{0, 1}},
		{3, complete(3, true), []int{0, 0}},
		{3, complete(3, true), []int{0}},
		{3, complete(3, true), nil},
		{3, complete(3, true), []int{0, 1, 3}},
		{3, complete(3, true), []int{0, -1, 2}},
		{3, complete(3, true), []int{math.MinInt, math.MaxInt, 1 << 32}},
		{3, complete(3, true), make([]int, 1<<16)},
		{3, nil, []int{0, 1, 2}},
		{4, []api.Tie{{A: 0, B: 1}, {A: 1, B: 2}, {A: 2, B: 3}}, []int{0, 1, 2}},
		{6, []api.Tie{{A: 0, B: 1}, {A: 2, B: 3}, {A: 4, B: 5}}, []int{0, 1, 2}},
	} {
		if count, is, e := feuds.IsRing(c.n, c.ties, c.list); count != 0 || is || e != api.OK {
			t.Error(c, count, is, e)
		}
	}
}

func TestP9_3SwitchWrong(t *testing.T) {
	for _, d := range allDroves() {
		for set := range 1 << d.n {
			if got, e := feuds.Switch(d.n, d.ties, set); !slices.Equal(got, slowSwitch(d.ties, set)) || e != api.OK {
				t.Fatal(d, set, got, e)
			}
			if got, e := feuds.Wrong(d.n, d.ties, set); !slices.Equal(got, slowWrong(d.ties, set)) || e != api.OK {
				t.Fatal(d, set, got, e)
			}
		}
	}
}

func TestP9_4Least(t *testing.T) {
	for _, d := range allDroves() {
		want := 0
		for set := range 1 << d.n {
			if len(slowWrong(d.ties, set)) < len(slowWrong(d.ties, want)) {
				want = set
			}
		}
		if set, list, e := feuds.Least(d.n, d.ties); set != want || !slices.Equal(list, slowWrong(d.ties, want)) || e != api.OK {
			t.Error(d, set, list, e, "not", want)
		}
	}
}

func TestP9_5Apart(t *testing.T) {
	few := slices.DeleteFunc(largeDroves(), func(d drove) bool { return len(d.ties) > 10 })
	for _, d := range slices.Concat(smallDroves(), randomDroves(7, 3000, 10), few) {
		want := slowApart(d)
		if got, e := feuds.Apart(d.n, d.ties); compareLists(got, want) != 0 || e != api.OK {
			t.Error(d, got, e, "not", want)
		}
	}
	for _, c := range []struct {
		n    int
		ties []api.Tie
		want [][]int
	}{
		{3, nil, nil},
		{3, complete(3, false), nil},
		{3, complete(3, true), [][]int{{0, 1, 2}}},
		{4, []api.Tie{{A: 0, B: 1, Feud: true}, {A: 2, B: 3}, {A: 1, B: 2}, {A: 0, B: 3}}, [][]int{{0, 2, 1, 3}}},
		// The ties of five drovers, in the order 01 02 03 04 12 13 14 23 24 34.
		{5, complete(5, true), [][]int{{0, 1, 4}, {2, 3, 9}}},
		{7, []api.Tie{{A: 0, B: 1, Feud: true}, {A: 2, B: 3, Feud: true}, {A: 4, B: 5, Feud: true}, {A: 0, B: 6}, {A: 1, B: 6}, {A: 2, B: 6}, {A: 3, B: 6}, {A: 4, B: 6}, {A: 5, B: 6}}, [][]int{{0, 3, 4}, {1, 5, 6}, {2, 7, 8}}},
	} {
		if got, e := feuds.Apart(c.n, c.ties); compareLists(got, c.want) != 0 || e != api.OK {
			t.Error(c, got, e)
		}
	}
}

// TestP9_5Full gives more ties than Apart takes; a list of ties that is wrong comes first.
func TestP9_5Full(t *testing.T) {
	for count := 11; count <= 20; count++ {
		for _, ties := range [][]api.Tie{complete(7, true)[:count], complete(8, false)[:count]} {
			if got, e := feuds.Apart(8, ties); len(got) != 0 || e != api.ErrFull {
				t.Error(count, got, e)
			}
			if got, e := feuds.Apart(2, ties); len(got) != 0 || e != api.ErrArg {
				t.Error(count, got, e)
			}
		}
	}
}

func TestP9_6Same(t *testing.T) {
	r := rand.New(rand.NewPCG(65, 66))
	for _, d := range allDroves() {
		for range 6 {
			want := make([]bool, len(d.ties))
			for i, tie := range slowSwitch(d.ties, r.IntN(1<<d.n)) {
				want[i] = tie.Feud
			}
			set, e := feuds.Same(d.n, d.ties, want)
			checkSet(t, "same", d, set, e, slowSame(d, want))
			if len(want) > 0 {
				at := r.IntN(len(want))
				want[at] = !want[at]
			}
			set, e = feuds.Same(d.n, d.ties, want)
			checkSet(t, "same", d, set, e, slowSame(d, want))
		}
	}
}

// TestP9_6All asks for all ways in which few ties can be feuds or friendships.
func TestP9_6All(t *testing.T) {
	for _, d := range randomDroves(8, 60, 7) {
		for _, way := range ways(d.ties) {
			var want []bool
			for _, tie := range way {
				want = append(want, tie.Feud)
			}
			set, e := feuds.Same(d.n, d.ties, want)
			checkSet(t, "same", d, set, e, slowSame(d, want))
		}
	}
}

func TestP9_6Classes(t *testing.T) {
	for _, d := range slices.Concat(smallDroves(), randomDroves(9, 150, 10), []drove{{5, complete(5, false)}, {8, around(8, 3)}}) {
		if got, e := feuds.Classes(d.n, d.ties); got != slowClasses(d) || e != api.OK {
			t.Error(d, got, e, "not", slowClasses(d))
		}
	}
	for _, c := range []struct {
		n    int
		ties []api.Tie
		want int
	}{
		{1, nil, 1}, {8, nil, 1}, {2, complete(2, true), 1}, {3, complete(3, false), 2}, {4, complete(4, true), 8}, {5, complete(5, true), 64}, {6, complete(6, true), 1024}, {8, complete(6, true), 1024}, {7, complete(7, false)[:20], 1 << 14}, {8, complete(7, false)[1:], 1 << 14},
		{8, around(8, 5), 2}, {8, around(8, 5)[1:], 1}, {8, complete(8, true)[:20], 1 << 13},
	} {
		if got, e := feuds.Classes(c.n, c.ties); got != c.want || e != api.OK {
			t.Error(c, got, e)
		}
	}
}

func TestP9_7Clans(t *testing.T) {
	for _, d := range slices.Concat(smallDroves(), randomDroves(10, 700, 20), largeDroves()) {
		got, e := feuds.Clans(d.n, d.ties)
		checkList(t, "clans", d, got, e, slowClans(d))
	}
	for _, c := range []struct {
		n    int
		ties []api.Tie
		want []int
	}{
		{1, nil, []int{1}}, {8, nil, []int{1, 2, 4, 8, 16, 32, 64, 128}}, {8, around(8, 0), []int{255}}, {8, around(8, 1), nil}, {8, around(8, 2), []int{2, 253}}, {8, around(8, 8), []int{1, 2, 4, 8, 16, 32, 64, 128}},
		// The clans come by their numbers, not by their least drovers.
		{4, []api.Tie{{A: 0, B: 3}, {A: 1, B: 2}, {A: 0, B: 1, Feud: true}}, []int{6, 9}},
		{4, []api.Tie{{A: 1, B: 2}, {A: 2, B: 3}, {A: 1, B: 3, Feud: true}}, nil},
	} {
		got, e := feuds.Clans(c.n, c.ties)
		checkList(t, "clans", drove{c.n, c.ties}, got, e, c.want)
	}
}

func TestP9_7Spoilt(t *testing.T) {
	for _, d := range allDroves() {
		got, e := feuds.Spoilt(d.n, d.ties)
		checkList(t, "spoilt", d, got, e, slowShortest(d, isOne))
	}
	for _, c := range []struct {
		n    int
		ties []api.Tie
		want []int
	}{
		{3, complete(3, true), nil}, {3, complete(3, false), nil}, {8, around(8, 1), []int{0, 1, 2, 3, 4, 5, 6, 7}}, {8, around(8, 3), nil}, {2, complete(2, true), nil},
		// A ring of three feuds is odd, but has more than one.
		{6, []api.Tie{{A: 0, B: 1, Feud: true}, {A: 0, B: 2, Feud: true}, {A: 1, B: 2, Feud: true}, {A: 2, B: 3}, {A: 3, B: 4, Feud: true}, {A: 4, B: 5}, {A: 3, B: 5}}, []int{4, 5, 6}},
	} {
		got, e := feuds.Spoilt(c.n, c.ties)
		checkList(t, "spoilt", drove{c.n, c.ties}, got, e, c.want)
	}
}

// TestRenumbered gives the ties in another order: what does not go by their order stays the same.
func TestRenumbered(t *testing.T) {
	r := rand.New(rand.NewPCG(67, 68))
	for _, d := range randomDroves(11, 500, 10) {
		order := r.Perm(len(d.ties))
		other := make([]api.Tie, len(d.ties))
		for to, from := range order {
			other[to] = d.ties[from]
		}
		list := func(ties []api.Tie) []any {
			set, e := feuds.Sides(d.n, ties)
			least, wrongTies, f := feuds.Least(d.n, ties)
			groups, g := feuds.Clans(d.n, ties)
			rings, h := feuds.Apart(d.n, ties)
			ring, i := feuds.Ring(d.n, ties)
			spoiltRing, j := feuds.Spoilt(d.n, ties)
			count, k := feuds.Classes(d.n, ties)
			return []any{set, e, least, len(wrongTies), f, len(groups), g, len(rings), h, len(ring), i, len(spoiltRing), j, count, k}
		}
		if first, second := list(d.ties), list(other); !reflect.DeepEqual(first, second) {
			t.Error(d, other, first, second)
		}
	}
}
