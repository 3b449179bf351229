package feuds_test

import (
	"slices"
	"testing"

	"droveway/api"
	"droveway/feuds"
)

func switchedBy(t *testing.T, d drove, set int) drove {
	t.Helper()
	ties, e := feuds.Switch(d.n, d.ties, set)
	ok(t, e)
	return drove{d.n, ties}
}

func leastOf(t *testing.T, d drove) (int, []int) {
	t.Helper()
	set, list, e := feuds.Least(d.n, d.ties)
	ok(t, e)
	return set, list
}

func isCalm(t *testing.T, d drove) bool {
	t.Helper()
	set, e := feuds.Sides(d.n, d.ties)
	if e != api.OK && (e != api.ErrPlan || set != 0) {
		t.Fatal(d, set, e)
	}
	return e == api.OK
}

// TestP9_8Harary finds either sides with which nothing is wrong, or a ring that is odd.
func TestP9_8Harary(t *testing.T) {
	for _, d := range allDroves() {
		set, e := feuds.Sides(d.n, d.ties)
		ring, f := feuds.Ring(d.n, d.ties)
		if (e == api.OK) == (f == api.OK) {
			t.Fatal(d, set, e, ring, f)
		}
		if e == api.OK {
			if list, g := feuds.Wrong(d.n, d.ties, set); len(list) != 0 || g != api.OK {
				t.Fatal(d, set, list, g)
			}
			continue
		}
		if count, is, g := feuds.IsRing(d.n, d.ties, ring); count%2 != 1 || !is || g != api.OK {
			t.Fatal(d, ring, count, is, g)
		}
	}
}

// TestP9_9Davis finds either clans that fit, or a ring with just one feud.
func TestP9_9Davis(t *testing.T) {
	for _, d := range allDroves() {
		groups, e := feuds.Clans(d.n, d.ties)
		ring, f := feuds.Spoilt(d.n, d.ties)
		if (e == api.OK) == (f == api.OK) {
			t.Fatal(d, groups, e, ring, f)
		}
		if e == api.OK {
			all := 0
			for _, clan := range groups {
				if clan == 0 || all&clan != 0 {
					t.Fatal(d, groups)
				}
				all |= clan
			}
			if all != 1<<d.n-1 || !fit(d.ties, groups) {
				t.Fatal(d, groups)
			}
			continue
		}
		if count, is, g := feuds.IsRing(d.n, d.ties, ring); count != 1 || !is || g != api.OK {
			t.Fatal(d, ring, count, is, g)
		}
	}
}

func TestP9_10Switching(t *testing.T) {
	for _, d := range allDroves() {
		set, list := leastOf(t, d)
		calm := isCalm(t, d)
		step := 1
		if len(d.ties) > 6 {
			step = 1 + len(d.ties)/2
		}
		for by := 0; by < 1<<d.n; by += step {
			other := switchedBy(t, d, by)
			if _, fewest := leastOf(t, other); len(fewest) != len(list) || isCalm(t, other) != calm {
				t.Fatal(d, by, other, fewest, list)
			}
			if twice := switchedBy(t, other, by); !slices.Equal(twice.ties, d.ties) {
				t.Fatal(d, by, twice)
			}
		}
		if all := switchedBy(t, d, 1<<d.n-1); !slices.Equal(all.ties, d.ties) {
			t.Fatal(d, all)
		}
		for i, tie := range switchedBy(t, d, set).ties {
			if tie.Feud != slices.Contains(list, i) {
				t.Fatal(d, set, list, i)
			}
		}
	}
}

func TestP9_10Rings(t *testing.T) {
	for _, d := range slices.Concat(randomDroves(12, 60, 12), []drove{{5, complete(5, true)}, {8, around(8, 3)}}) {
		rings := slowRings(d)
		for set := range 1 << d.n {
			other := switchedBy(t, d, set)
			for i := 0; i < len(rings); i += 1 + len(rings)/50 {
				before, is, e := feuds.IsRing(d.n, d.ties, rings[i])
				ok(t, e)
				after, still, e := feuds.IsRing(d.n, other.ties, rings[i])
				ok(t, e)
				if !is || !still || before%2 != after%2 {
					t.Fatal(d, set, rings[i], before, after, is, still)
				}
			}
		}
	}
}

func TestP9_11Fewest(t *testing.T) {
	for _, d := range slices.Concat(smallDroves(), randomDroves(13, 400, 9), []drove{{5, complete(5, true)}}) {
		_, list := leastOf(t, d)
		if !isCalm(t, drove{d.n, changed(d.ties, list)}) || len(list) != slowFewest(d) {
			t.Fatal(d, list)
		}
		for count := range len(list) {
			for _, fewer := range choices(len(d.ties), count) {
				if isCalm(t, drove{d.n, changed(d.ties, fewer)}) {
					t.Fatal(d, list, fewer)
				}
			}
		}
		rings, e := feuds.Apart(d.n, d.ties)
		ok(t, e)
		if len(rings) > len(list) {
			t.Fatal(d, rings, list)
		}
	}
	for _, d := range allDroves() {
		if _, list := leastOf(t, d); !isCalm(t, drove{d.n, changed(d.ties, list)}) {
			t.Fatal(d, list)
		}
	}
}

func TestP9_12Classes(t *testing.T) {
	for _, d := range allDroves() {
		groups := len(slowGroups(d, func(api.Tie) bool { return true }))
		if got, e := feuds.Classes(d.n, d.ties); got != 1<<(len(d.ties)-d.n+groups) || e != api.OK {
			t.Fatal(d, got, e, groups)
		}
		others := map[string]bool{}
		for set := range 1 << d.n {
			others[nameOf(switchedBy(t, d, set).ties)] = true
		}
		if len(others) != 1<<(d.n-groups) {
			t.Fatal(d, len(others), groups)
		}
	}
}

func TestP9_13Clans(t *testing.T) {
	isFriendship := func(tie api.Tie) bool { return !tie.Feud }
	for _, d := range allDroves() {
		got, e := feuds.Clans(d.n, d.ties)
		if e != api.OK {
			continue
		}
		if !slices.Equal(got, slowGroups(d, isFriendship)) {
			t.Fatal(d, got)
		}
		for _, tie := range d.ties {
			isWithin := func(clan int) bool { return has(clan, tie.A) && has(clan, tie.B) }
			if isFriendship(tie) && !slices.ContainsFunc(got, isWithin) {
				t.Fatal(d, got, tie)
			}
		}
	}
}
