package wager

// matches are the heaps of Fibonacci nim.
func matches(heap, limit int) heaps {
	h := heaps{limit: limit}
	h.sizes[0] = heap
	return h
}

// fibonacciNim is the game in which only taking the tail is worth a try: if it can be taken, nobody wins with less.
func fibonacciNim() game {
	return game{
		moves: func(before heaps) []heaps {
			least := tail(before.sizes[0])
			if least == 0 || least > before.limit {
				return nil
			}
			return []heaps{matches(before.sizes[0]-least, 2*least)}
		},
		wins: func(next heaps) bool {
			least := tail(next.sizes[0])
			return least > 0 && least <= next.limit
		},
	}
}

// parts returns the Fibonacci numbers that sum to n, of which no two follow one another, the greatest first.
func parts(n int) []int {
	number, next := 1, 2
	for next <= n {
		number, next = next, number+next
	}
	var list []int
	for rest := n; rest > 0; {
		// The greatest number that fits leaves less than the one before it.
		if number <= rest {
			list = append(list, number)
			rest -= number
		}
		number, next = next-number, number
	}
	return list
}

// tail returns the least of the parts of a heap, or 0 if it is empty.
func tail(heap int) int {
	least := 0
	for _, part := range parts(heap) {
		least = part
	}
	return least
}

// grundy returns the least number that is not the grundy of a heap and limit after a move.
func grundy(heap, limit int) int {
	// rows has a row for each heap, with a number for each limit up to the heap; a higher limit allows no more.
	rows := make([][]int, heap+1)
	for matches := range rows {
		rows[matches] = grundyRow(rows[:matches])
	}
	return rows[heap][min(limit, heap)]
}

// grundyRow returns the row of the heap that comes after the rows of all lesser ones.
func grundyRow(rows [][]int) []int {
	heap := len(rows)
	row := make([]int, heap+1)
	// A heap has no number above its size, so that one place more always has none.
	reached := make([]bool, heap+1)
	least := 0
	for taken := 1; taken <= heap; taken++ {
		rest := heap - taken
		reached[rows[rest][min(2*taken, rest)]] = true
		for reached[least] {
			least++
		}
		row[taken] = least
	}
	return row
}
