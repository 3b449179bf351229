package pens

import (
	"slices"
)

// compare orders spots by X, then by Y.
func compare(a, b spot) int {
	return slices.Compare(a[:], b[:])
}

// hull returns the posts of the hull, to the left from the least one on; fewer than three if all spots are on one line.
func hull(spots []spot) []spot {
	list := slices.Clone(spots)
	slices.SortFunc(list, compare)
	list = slices.Compact(list)
	if len(list) < 3 {
		return list
	}
	lower := bow(list)
	slices.Reverse(list)
	upper := bow(list)
	// Each bow ends where the other one begins.
	return append(lower[:len(lower)-1], upper[:len(upper)-1]...)
}

// bow returns the way from the first spot to the last one that turns to the left at each spot and leaves none on its right.
func bow(list []spot) []spot {
	var way []spot
	for _, s := range list {
		for len(way) > 1 && turn(way[len(way)-2], way[len(way)-1], s) <= 0 {
			way = way[:len(way)-1]
		}
		way = append(way, s)
	}
	return way
}
