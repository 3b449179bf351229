package ambush

import (
	"math/bits"
	"slices"
)

// game tells who wins a field, and keeps what it has found.
type game struct {
	field
	winners map[turn]side
}

func newGame(f field) game { return game{f, map[turn]side{}} }

// winner returns who wins if both play as well as they can.
func (g game) winner(t turn) side {
	if g.won(t.position) {
		return wolves
	}
	known, ok := g.winners[t]
	if ok {
		return known
	}
	found := g.decide(t)
	g.winners[t] = found
	return found
}

// decide returns who wins a turn that the wolves have not won.
func (g game) decide(t turn) side {
	spots := g.freeSpots(t.position)
	if len(spots) == 0 {
		return dogs
	}
	if g.wins(t, g.move(t, spots)) {
		return t.next
	}
	return t.next.other()
}

// wins reports whether the next one wins by taking a spot.
func (g game) wins(t turn, spot int) bool { return g.winner(t.after(spot)) == t.next }

// move returns the first of the spots by which the next one wins, or else the first one.
func (g game) move(t turn, spots []int) int {
	i := slices.IndexFunc(spots, func(spot int) bool { return g.wins(t, spot) })
	return spots[max(0, i)]
}

// guards returns all spots by which the dogs win if they take the first one.
func (g game) guards() []int {
	empty := turn{position{}, dogs}
	return slices.DeleteFunc(g.freeSpots(empty.position), func(spot int) bool { return !g.wins(empty, spot) })
}

// needs returns the least number of spots with which the wolves win an empty field when the dogs are next.
func (g game) needs() int {
	// The wolves win if they have all spots.
	least := g.m
	for set := range g.all() {
		count := bits.OnesCount(uint(set))
		if count < least && g.winner(turn{position{wolves: set}, dogs}) == wolves {
			least = count
		}
	}
	return least
}
