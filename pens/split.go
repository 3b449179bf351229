package pens

import (
	"slices"

	"droveway/api"
)

// triangle is three corners that go around to the left.
type triangle [3]spot

// leftwards returns the posts in the direction to the left.
func (p pen) leftwards() pen {
	out := slices.Clone(p)
	if p.signed() < 0 {
		slices.Reverse(out)
	}
	return out
}

// split cuts the pen into triangles at its posts, and these at the points in them until they are small.
func (p pen) split() []triangle {
	return smaller(ears(p.leftwards()), p.points())
}

// points returns all points inside or on the border.
func (p pen) points() []spot {
	low, high := p[0], p[0]
	for _, s := range p {
		low = spot{min(low[0], s[0]), min(low[1], s[1])}
		high = spot{max(high[0], s[0]), max(high[1], s[1])}
	}
	var out []spot
	for x := low[0]; x <= high[0]; x++ {
		for y := low[1]; y <= high[1]; y++ {
			if s := (spot{x, y}); p.where(s) >= 0 {
				out = append(out, s)
			}
		}
	}
	return out
}

// ears cuts off one post after the other, until a triangle is left.
func ears(p pen) []triangle {
	rest := slices.Clone(p)
	var out []triangle
	for len(rest) > 3 {
		i := ear(rest)
		out = append(out, corner(rest, i))
		rest = slices.Delete(rest, i, i+1)
	}
	return append(out, corner(rest, 0))
}

// ear returns the place of a post that can be cut off such that a pen is left: every pen of more than three posts has two.
func ear(p pen) int {
	for i := range p {
		t := corner(p, i)
		if t.area() <= 0 {
			continue
		}
		if _, found := other(t, p); !found {
			return i
		}
	}
	return 0
}

// corner returns the triangle of the post at a place and its neighbours.
func corner(p pen, i int) triangle {
	n := len(p)
	return triangle{p[(i+n-1)%n], p[i], p[(i+1)%n]}
}

// area is twice the area, and below 0 if the corners go around to the right.
func (t triangle) area() int {
	return turn(t[0], t[1], t[2])
}

// has reports whether a spot is inside or on the border.
func (t triangle) has(s spot) bool {
	return turn(t[0], t[1], s) >= 0 && turn(t[1], t[2], s) >= 0 && turn(t[2], t[0], s) >= 0
}

// other returns one of the spots that the triangle has besides its corners, and whether there is one.
func other(t triangle, spots []spot) (spot, bool) {
	for _, s := range spots {
		if t.has(s) && s != t[0] && s != t[1] && s != t[2] {
			return s, true
		}
	}
	return spot{}, false
}

// smaller cuts triangles at the points that they have besides their corners, until there are none.
func smaller(triangles []triangle, points []spot) []triangle {
	open := slices.Clone(triangles)
	var out []triangle
	for len(open) > 0 {
		t := open[len(open)-1]
		open = open[:len(open)-1]
		s, found := other(t, points)
		if !found {
			out = append(out, t)
			continue
		}
		for i := range t {
			// A point on a side makes no triangle with that side.
			if part := (triangle{t[i], t[(i+1)%3], s}); part.area() > 0 {
				open = append(open, part)
			}
		}
	}
	return out
}

// smallOf returns the triangle with the given corners, and whether it is a small one.
func smallOf(corners [3]api.Point) (triangle, bool) {
	var t triangle
	for i, c := range corners {
		t[i] = spotOf(c)
		if !within(t[i], api.MaxAt) {
			return triangle{}, false
		}
	}
	if t.area() < 0 {
		t[1], t[2] = t[2], t[1]
	}
	return t, t.area() == 1
}

// ways counts, for each point of the grid and the next one on a line, how often a way leads from the first to the second,
// less how often one leads back. Two ways that are not the same, and not back, have at most one point in common.
type ways map[[2]spot]int

// add counts the way from a to b.
func (w ways) add(a, b spot) {
	w[[2]spot{a, b}]++
	w[[2]spot{b, a}]--
}

// addSide counts the ways on the side from a to b.
func (w ways) addSide(a, b spot) {
	n := steps(a, b)
	x, y := (b[0]-a[0])/n, (b[1]-a[1])/n
	for range n {
		next := spot{a[0] + x, a[1] + y}
		w.add(a, next)
		a = next
	}
}

// even reports whether every way is led back as often.
func (w ways) even() bool {
	for _, n := range w {
		if n != 0 {
			return false
		}
	}
	return true
}

// isSplit reports whether small triangles are a split. It looks at their borders only: how often the plane is covered
// changes just where a way around a triangle is not led back by one around another triangle. So the pen is covered once,
// and nothing else is, exactly if all the ways that are left are those around the pen.
func (p pen) isSplit(triangles []triangle) bool {
	around := ways{}
	for _, t := range triangles {
		around.add(t[0], t[1])
		around.add(t[1], t[2])
		around.add(t[2], t[0])
	}
	for a, b := range p.leftwards().sides() {
		around.addSide(b, a)
	}
	return around.even()
}
