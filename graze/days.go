package graze

import "droveway/api"

// day returns the pasture on the next day: each row is grazed as far as one of the plots that are next asks for, in this row or
// behind it.
func (p pasture) day() pasture {
	after := pasture{rows: p.rows, columns: p.columns}
	reach := 0
	for row := p.rows - 1; row >= 0; row-- {
		// No other plot of the row can be next, and if it is, it reaches further than those behind it.
		plot := api.Pair{A: row, B: p.grazed[row]}
		if p.isNext(plot) {
			reach = plot.B + 1
		}
		after.grazed[row] = reach
	}
	return after
}

// back returns the pasture on the day before: its ends were next, so that neither they nor any plot beyond them were grazed, and
// all other plots were.
func (p pasture) back() pasture {
	before := pasture{rows: p.rows, columns: p.columns}
	reach := p.columns
	for row := range p.rows {
		// No other plot of the row can be an end, and if it is, it leaves less than those before it.
		plot := api.Pair{A: row, B: p.grazed[row] - 1}
		if p.isEnd(plot) {
			reach = plot.B
		}
		before.grazed[row] = reach
	}
	return before
}

// round returns the pasture, and what it is on the days until it is as before. As each state has just one on the day before, the
// first state that comes again is this one.
func (p pasture) round() []pasture {
	list := []pasture{p}
	for next := p.day(); next != p; next = next.day() {
		list = append(list, next)
	}
	return list
}

// after returns the pasture after so many days, or before them if their number is negative.
func (p pasture) after(days int) pasture {
	round := p.round()
	return round[modulo(days, len(round))]
}

// modulo returns what is left of n, from 0 to t - 1, also for an n below 0.
func modulo(n, t int) int { return (n%t + t) % t }
