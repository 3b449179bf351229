package wager

// twoHeaps are the heaps of Euclid's game.
func twoHeaps(a, b int) heaps {
	h := heaps{}
	h.sizes[0], h.sizes[1] = a, b
	return h
}

// euclidsGame is the game in which only the last two moves are worth a try: fewer multiples leave at least twice the lesser
// heap, with which the next player wins.
func euclidsGame() game {
	return game{
		moves: func(before heaps) []heaps {
			greater := 0
			if before.sizes[1] >= before.sizes[0] {
				greater = 1
			}
			lesser := before.sizes[1-greater]
			if lesser == 0 {
				return nil
			}
			most := before.sizes[greater] / lesser
			var list []heaps
			for times := max(1, most-1); times <= most; times++ {
				after := before
				after.sizes[greater] -= times * lesser
				list = append(list, after)
			}
			return list
		},
		wins: func(next heaps) bool { return hasChoice(quotients(next.sizes[0], next.sizes[1])) },
	}
}

// hasChoice reports whether the player who is next is the first one who has a choice of moves, or the last move. A quotient of 1
// leaves just one move; with a greater one, a player wins by the last move, or by the one before it, which forces the other one
// to make the last move.
func hasChoice(quotients []int) bool {
	if len(quotients) == 0 {
		return false
	}
	forced := 0
	for forced < len(quotients)-1 && quotients[forced] == 1 {
		forced++
	}
	return forced%2 == 0
}

// quotients returns the quotients of Euclid's algorithm.
func quotients(a, b int) []int {
	greater, lesser := max(a, b), min(a, b)
	var list []int
	for lesser > 0 {
		list = append(list, greater/lesser)
		greater, lesser = lesser, greater%lesser
	}
	return list
}
