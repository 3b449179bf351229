package ambush_test

import (
	"math/rand/v2"
	"slices"
	"strings"
	"testing"

	"droveway/ambush"
	"droveway/api"
)

// winner asks who wins.
func winner(t *testing.T, f field, position, next string) string {
	t.Helper()
	who, e := ambush.Winner(f.m, f.lines, position, next)
	if e != api.OK || who != "w" && who != "d" {
		t.Fatal(f, position, next, who, e)
	}
	return who
}

// carefulWins returns a function that reports whether the dogs win, whatever the wolves do, if they take what Careful says.
func carefulWins(t *testing.T, f field) func(position, next string) bool {
	known := map[string]bool{}
	var look func(position, next string) bool
	look = func(position, next string) bool {
		if wins, ok := known[next+position]; ok {
			return wins
		}
		wins := true
		switch {
		case slowWon(f, position):
			wins = false
		case !strings.Contains(position, "."):
		case next == "d":
			spot, e := ambush.Careful(f.m, f.lines, position)
			if e != api.OK || position[spot] != '.' {
				t.Fatal(f, position, spot, e)
			}
			wins = look(put(position, spot, "d"), "w")
		default:
			for spot := range position {
				wins = wins && (position[spot] != '.' || look(put(position, spot, "w"), "d"))
			}
		}
		known[next+position] = wins
		return wins
	}
	return look
}

func TestP4_7Careful(t *testing.T) {
	held := 0
	for _, f := range slices.Concat(manyFields(60, 7), []field{{8, []int{15, 240, 85, 170, 60}}, {9, []int{31, 496, 341, 170, 124}}}) {
		wins := carefulWins(t, f)
		for _, p := range positions(f.m) {
			danger, e := ambush.Danger(f.m, f.lines, p)
			if e != api.OK {
				t.Fatal(f, p, e)
			}
			if danger < 1<<f.m && (winner(t, f, p, "d") != "d" || !wins(p, "d")) {
				t.Fatal(f, p, "d", danger)
			}
			if danger < 1<<(f.m-1) {
				held++
				if winner(t, f, p, "w") != "d" || !wins(p, "w") {
					t.Fatal(f, p, "w", danger)
				}
			}
		}
	}
	if held < 10000 {
		t.Error("too few positions are calm:", held)
	}
}

// answerWins reports whether the dogs win, whatever the wolves do, if they answer the wolves' last spot, and take any free spot
// where there is no answer (last is -1 before the wolves took one).
func answerWins(t *testing.T, f field, pairs []api.Pair) func(position, next string, last int) bool {
	type state struct {
		position, next string
		last           int
	}
	known := map[state]bool{}
	var look func(position, next string, last int) bool
	look = func(position, next string, last int) bool {
		key := state{position, next, last}
		if wins, ok := known[key]; ok {
			return wins
		}
		answer := -1
		if last >= 0 && next == "d" {
			var e api.Errno
			if answer, e = ambush.Answer(f.m, f.lines, pairs, last); e != api.OK {
				t.Fatal(f, pairs, last, e)
			}
		}
		wins := !slowWon(f, position)
		for spot := range position {
			switch {
			case !wins || position[spot] != '.':
			case next == "w":
				wins = look(put(position, spot, "w"), "d", spot)
			case answer < 0 || position[answer] != '.' || answer == spot:
				wins = look(put(position, spot, "d"), "w", last)
			}
		}
		known[key] = wins
		return wins
	}
	return look
}

func TestP4_8Pairs(t *testing.T) {
	found := 0
	for _, f := range slices.Concat(manyFields(200, 7), []field{{8, []int{3, 12, 48, 192}}, {8, []int{129, 66, 36, 24, 255}}}) {
		pairs, e := ambush.Pairing(f.m, f.lines)
		if e == api.ErrPlan {
			continue
		}
		if is, g := ambush.IsPairing(f.m, f.lines, pairs); !is || e != api.OK || g != api.OK {
			t.Fatal(f, pairs, is, e, g)
		}
		for _, next := range []string{"w", "d"} {
			if winner(t, f, empty(f.m), next) != "d" {
				t.Error(f, pairs, next)
			}
		}
		if f.m == 9 {
			continue
		}
		found++
		wins := answerWins(t, f, pairs)
		if !wins(empty(f.m), "w", -1) || !wins(empty(f.m), "d", -1) {
			t.Error(f, pairs)
		}
	}
	if found < 50 {
		t.Error("too few fields have a pairing:", found)
	}
}

func TestP4_9More(t *testing.T) {
	for _, f := range append(smallFields(), slices.Concat(randomFields(40, 6), []field{two, triangle, repeated, fano})...) {
		winners := map[string]string{}
		for _, p := range positions(f.m) {
			winners["w"+p], winners["d"+p] = winner(t, f, p, "w"), winner(t, f, p, "d")
		}
		for _, p := range positions(f.m) {
			for spot := range p {
				more := put(p, spot, "w")
				if winners["w"+p] == "w" && winners["w"+more] != "w" || winners["d"+p] == "w" && winners["d"+more] != "w" {
					t.Fatal(f, p, more)
				}
			}
			if strings.Contains(p, ".") && (winners["d"+p] == "w" && winners["w"+p] != "w" || winners["w"+p] == "d" && winners["d"+p] != "d") {
				t.Fatal(f, p)
			}
		}
	}
}

func TestP4_10Lines(t *testing.T) {
	r := rand.New(rand.NewPCG(15, 16))
	for _, f := range append(smallFields(), slices.Concat(randomFields(60, 6), []field{two, triangle, repeated, fano})...) {
		least, e := ambush.Least(f.m, f.lines)
		if e != api.OK {
			t.Fatal(f, least, e)
		}
		mixed := slices.Clone(f.lines)
		r.Shuffle(len(mixed), func(i, k int) { mixed[i], mixed[k] = mixed[k], mixed[i] })
		more := f
		if len(f.lines) < api.MaxLines {
			more.lines = append(slices.Clone(f.lines), 1+r.IntN(1<<f.m-1))
		}
		for _, p := range positions(f.m) {
			for _, next := range []string{"w", "d"} {
				who := winner(t, f, p, next)
				if winner(t, field{f.m, least}, p, next) != who || winner(t, field{f.m, mixed}, p, next) != who {
					t.Fatal(f, least, mixed, p, next)
				}
				if who == "w" && winner(t, more, p, next) != "w" {
					t.Fatal(f, more, p, next)
				}
			}
		}
	}
}

func TestP4_11WhoeverBegins(t *testing.T) {
	both := [2]int{}
	for _, f := range manyFields(500, 9) {
		who := winner(t, f, empty(f.m), "d")
		guards, e := ambush.Guards(f.m, f.lines)
		if (len(guards) > 0) != (who == "d") || e != api.OK {
			t.Error(f, guards, who, e)
		}
		needs, e := ambush.Needs(f.m, f.lines)
		switch {
		case len(f.lines) == 0:
			if e != api.ErrPlan || who != "d" {
				t.Error(f, needs, who, e)
			}
		case (needs == 0) != (who == "w") || e != api.OK:
			t.Error(f, needs, who, e)
		case needs == 0:
			both[0]++
		default:
			both[1]++
		}
	}
	if both[0] < 50 || both[1] < 50 {
		t.Error("too few fields of a kind:", both)
	}
}
