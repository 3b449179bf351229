package graze

import (
	"slices"

	"droveway/api"
)

// pasture is a pasture in one of its states: of each row, as many plots are grazed as its number says.
type pasture struct {
	rows, columns int
	grazed        [api.MaxRows]int
}

// isSize reports whether there can be a pasture with so many rows and columns.
func isSize(rows, columns int) bool {
	return rows >= 1 && rows <= api.MaxRows && columns >= 1 && columns <= api.MaxRows
}

// pastureOf returns a pasture in the state that is given as a list.
func pastureOf(rows, columns int, state []int) (pasture, api.Errno) {
	if !isSize(rows, columns) || len(state) != rows {
		return pasture{}, api.ErrArg
	}
	p := pasture{rows: rows, columns: columns}
	for row, grazed := range state {
		if grazed < 0 || grazed > p.most(row) {
			return pasture{}, api.ErrArg
		}
		p.grazed[row] = grazed
	}
	return p, api.OK
}

// pastures returns a pasture in each of its states.
func pastures(rows, columns int) []pasture {
	list := []pasture{{rows: rows, columns: columns}}
	for row := range rows {
		var longer []pasture
		for _, p := range list {
			for grazed := range p.most(row) + 1 {
				p.grazed[row] = grazed
				longer = append(longer, p)
			}
		}
		list = longer
	}
	return list
}

// list returns the state as a list.
func (p pasture) list() []int { return slices.Clone(p.grazed[:p.rows]) }

// most returns how many plots of a row may be grazed, by the row before it.
func (p pasture) most(row int) int {
	if row == 0 {
		return p.columns
	}
	return p.grazed[row-1]
}

// least returns how many plots of a row must be grazed, by the row after it.
func (p pasture) least(row int) int {
	if row == p.rows-1 {
		return 0
	}
	return p.grazed[row+1]
}

// has reports whether there is such a plot.
func (p pasture) has(plot api.Pair) bool {
	return plot.A >= 0 && plot.A < p.rows && plot.B >= 0 && plot.B < p.columns
}

// isNext reports whether a plot is not grazed, and all plots are that it lies beyond.
func (p pasture) isNext(plot api.Pair) bool {
	return plot.B == p.grazed[plot.A] && plot.B < p.most(plot.A)
}

// isEnd reports whether a plot is grazed, and none is that lies beyond it.
func (p pasture) isEnd(plot api.Pair) bool {
	return plot.B == p.grazed[plot.A]-1 && plot.B >= p.least(plot.A)
}

// plots returns the plots of one kind, by row, then by column.
func (p pasture) plots(isKind func(api.Pair) bool) []api.Pair {
	var list []api.Pair
	for row := range p.rows {
		for column := range p.columns {
			plot := api.Pair{A: row, B: column}
			if isKind(plot) {
				list = append(list, plot)
			}
		}
	}
	return list
}

// turned returns the pasture after a plot is turned.
func (p pasture) turned(plot api.Pair) pasture {
	switch {
	case p.isNext(plot):
		p.grazed[plot.A]++
	case p.isEnd(plot):
		p.grazed[plot.A]--
	}
	return p
}

// swept returns the pasture after all plots are turned, by column less row, and where that is the same by row.
func (p pasture) swept() pasture {
	for ahead := 1 - p.rows; ahead < p.columns; ahead++ {
		for row := range p.rows {
			plot := api.Pair{A: row, B: row + ahead}
			if p.has(plot) {
				p = p.turned(plot)
			}
		}
	}
	return p
}
