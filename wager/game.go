package wager

import (
	"iter"

	"droveway/api"
)

// heaps are what lies before the player who is next: one heap of matches or two, or the rows of a bar. Only Fibonacci nim has
// the limit.
type heaps struct {
	sizes [api.MaxRows]int
	limit int
}

// game is told by what a player can do, and by what comes of it.
type game struct {
	// moves returns the heaps after each move, in the order in which the moves are to be tried. It may leave out moves that do
	// not win.
	moves func(heaps) []heaps
	// wins reports whether the player who is next wins.
	wins func(heaps) bool
}

// winning goes through the heaps after each move that wins.
func (g game) winning(before heaps) iter.Seq[heaps] {
	return func(yield func(heaps) bool) {
		for _, after := range g.moves(before) {
			if !g.wins(after) && !yield(after) {
				return
			}
		}
	}
}

// best returns the heaps after the first move that wins; it is false if there is none.
func (g game) best(before heaps) (heaps, bool) {
	for after := range g.winning(before) {
		return after, true
	}
	return heaps{}, false
}

// isHeap reports whether a heap can have so many matches.
func isHeap(matches int) bool { return matches >= 0 && matches <= api.MaxHeap }
