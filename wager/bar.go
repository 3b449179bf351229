package wager

import "droveway/api"

// chomp is the game with a bar. It keeps who wins, as the same bar is left in many ways.
func chomp() game {
	known := map[heaps]bool{}
	g := game{moves: bites}
	g.wins = func(bar heaps) bool {
		if bar == (heaps{}) {
			// The other one took the bitter piece.
			return true
		}
		wins, isKnown := known[bar]
		if !isKnown {
			_, wins = g.best(bar)
			known[bar] = wins
		}
		return wins
	}
	return g
}

// bites returns the bars after each piece of a bar is taken, by row, then by column.
func bites(bar heaps) []heaps {
	var list []heaps
	for row, size := range bar.sizes {
		for column := range size {
			list = append(list, bar.without(row, column))
		}
	}
	return list
}

// without returns a bar after a piece is taken.
func (bar heaps) without(row, column int) heaps {
	for r := row; r < len(bar.sizes); r++ {
		bar.sizes[r] = min(bar.sizes[r], column)
	}
	return bar
}

// hasPiece reports whether a piece is there.
func (bar heaps) hasPiece(row, column int) bool {
	return row >= 0 && row < len(bar.sizes) && column >= 0 && column < bar.sizes[row]
}

// taken returns the piece that was taken between two bars.
func taken(before, after heaps) [2]int {
	row := 0
	for before.sizes[row] == after.sizes[row] {
		row++
	}
	return [2]int{row, after.sizes[row]}
}

// barOf returns a bar that is given as a list; it is false if the list is not a bar. The rows that it does not have are empty.
func barOf(list []int) (heaps, bool) {
	bar := heaps{}
	if len(list) < 1 || len(list) > api.MaxRows {
		return bar, false
	}
	most := api.MaxColumns
	for row, size := range list {
		if size < 0 || size > most {
			return heaps{}, false
		}
		bar.sizes[row] = size
		most = size
	}
	return bar, true
}

// sizeError tells what is wrong with the size of a full bar, if anything is.
func sizeError(rows, columns int) api.Errno {
	if rows < 1 || rows > api.MaxRows || columns < 1 || columns > api.MaxColumns {
		return api.ErrArg
	}
	if rows*columns > api.MaxPieces {
		return api.ErrFull
	}
	return api.OK
}

// fullBar returns the bar of which all rows are the same.
func fullBar(rows, columns int) heaps {
	bar := heaps{}
	for row := range rows {
		bar.sizes[row] = columns
	}
	return bar
}

// bars returns all bars with at most so many rows and columns, in lexicographic order.
func bars(rows, columns int) []heaps {
	list := []heaps{{}}
	for row := range rows {
		var longer []heaps
		for _, bar := range list {
			most := columns
			if row > 0 {
				most = bar.sizes[row-1]
			}
			for size := range most + 1 {
				bar.sizes[row] = size
				longer = append(longer, bar)
			}
		}
		list = longer
	}
	return list
}
