package brands

import (
	"cmp"
	"slices"

	"droveway/api"
)

// brand is a number of corners, and lines that were found to be a brand of so many.
type brand struct {
	n     int
	lines []api.Pair
}

// brandOf returns the brand, and whether it is one.
func brandOf(n int, lines []api.Pair) (brand, bool) {
	if n < 3 || n > api.MaxCorners || len(lines) != n-3 {
		return brand{}, false
	}
	for i, l := range lines {
		if !isLine(n, l) {
			return brand{}, false
		}
		for _, before := range lines[:i] {
			if compare(before, l) >= 0 || cross(before, l) {
				return brand{}, false
			}
		}
	}
	return brand{n, lines}, true
}

func isCorner(n, c int) bool { return 0 <= c && c < n }

// after is the next corner around.
func after(n, c int) int { return (c + 1) % n }

// ahead is the corner whose next one is c.
func ahead(n, c int) int { return (c + n - 1) % n }

func neighbours(n, a, b int) bool { return after(n, a) == b || after(n, b) == a }

// isLine reports whether the pair joins two corners, the less one first, that are not neighbours.
func isLine(n int, l api.Pair) bool {
	return isCorner(n, l.A) && isCorner(n, l.B) && l.A < l.B && !neighbours(n, l.A, l.B)
}

// lineOf joins two corners.
func lineOf(a, b int) api.Pair { return api.Pair{A: min(a, b), B: max(a, b)} }

// compare orders lines by A, then by B.
func compare(a, b api.Pair) int {
	return cmp.Or(cmp.Compare(a.A, b.A), cmp.Compare(a.B, b.B))
}

// sorted returns the elements of all the parts as one list, in order.
func sorted[E any](compare func(a, b E) int, parts ...[]E) []E {
	out := slices.Concat(parts...)
	slices.SortFunc(out, compare)
	return out
}

// cross reports whether a line crosses one that comes behind it in the order: that one begins inside and ends outside.
func cross(first, second api.Pair) bool {
	return first.A < second.A && second.A < first.B && first.B < second.B
}

// joined reports whether two corners are neighbours or joined by a line.
func (b brand) joined(c, d int) bool {
	return neighbours(b.n, c, d) || slices.Contains(b.lines, lineOf(c, d))
}

// triangles returns all of them, in order. No corner lies inside of others, so that no line can cut a triple whose corners
// are joined.
func (b brand) triangles() [][3]int {
	var out [][3]int
	for c := range b.n {
		for d := c + 1; d < b.n; d++ {
			for e := d + 1; e < b.n; e++ {
				if b.joined(c, d) && b.joined(d, e) && b.joined(c, e) {
					out = append(out, [3]int{c, d, e})
				}
			}
		}
	}
	return out
}

// across returns the other line through the two triangles that have the line as a side.
func (b brand) across(l api.Pair) api.Pair {
	var tips []int
	for c := range b.n {
		if b.joined(c, l.A) && b.joined(c, l.B) {
			tips = append(tips, c)
		}
	}
	return lineOf(tips[0], tips[1])
}

// choices counts the ways to choose a triangle for each corner, all different and none of the set that is taken. There are
// few (the numbers of a frieze are small), so that it may try all of them.
func choices(corners []int, triangles [][3]int, taken int) int {
	if len(corners) == 0 {
		return 1
	}
	ways := 0
	for i, t := range triangles {
		if taken&(1<<i) == 0 && slices.Contains(t[:], corners[0]) {
			ways += choices(corners[1:], triangles, taken|1<<i)
		}
	}
	return ways
}
