// Package pens is layer 1, polygons on a grid: areas, points inside, hulls, splits into small triangles, and opposites.
// Its promises are in the document's chapter doc/01-pens.md.
package pens

import (
	"droveway/api"
)

// maxAsked bounds the numbers of the point that Where is asked for.
const maxAsked = 1 << 20

// IsPen reports whether the posts make a pen.
func IsPen(posts []api.Point) bool {
	_, ok := penOf(posts)
	return ok
}

// Area returns twice the area of the pen.
func Area(posts []api.Point) (int, api.Errno) {
	p, ok := penOf(posts)
	if !ok {
		return 0, api.ErrArg
	}
	return p.area(), api.OK
}

// Count returns the number of points on the border, and of those inside.
func Count(posts []api.Point) (int, int, api.Errno) {
	p, ok := penOf(posts)
	if !ok {
		return 0, 0, api.ErrArg
	}
	return p.border(), p.inside(), api.OK
}

// Where returns 1 for a point inside, 0 for one on the border, and -1 for any other one.
func Where(posts []api.Point, p api.Point) (int, api.Errno) {
	q, ok := penOf(posts)
	if !ok {
		return 0, api.ErrArg
	}
	s := spotOf(p)
	if !within(s, maxAsked) {
		return 0, api.ErrRange
	}
	return q.where(s), api.OK
}

// Grown returns the number of points inside or on the border of the pen with times as great numbers, and of those inside.
func Grown(posts []api.Point, times int) (int, int, api.Errno) {
	p, ok := penOf(posts)
	if !ok || times < 1 || times > api.MaxTimes {
		return 0, 0, api.ErrArg
	}
	return p.grown(times), p.grown(-times), api.OK
}

// Convex reports whether the pen turns to one side only.
func Convex(posts []api.Point) (bool, api.Errno) {
	p, ok := penOf(posts)
	if !ok {
		return false, api.ErrArg
	}
	left, right := p.bends()
	return left == 0 || right == 0, api.OK
}

// Hull returns the posts of the smallest convex pen that contains all the points, to the left from the least one on.
func Hull(points []api.Point) ([]api.Point, api.Errno) {
	if len(points) > api.MaxPoints {
		return nil, api.ErrLimit
	}
	var spots []spot
	for _, p := range points {
		s := spotOf(p)
		if !within(s, api.MaxAt) {
			return nil, api.ErrArg
		}
		spots = append(spots, s)
	}
	posts := hull(spots)
	if len(posts) < 3 {
		return nil, api.ErrPlan
	}
	if len(posts) > api.MaxPosts {
		return nil, api.ErrFull
	}
	return pointsOf(posts), api.OK
}

// Split returns small triangles that cover the pen and do not overlap.
func Split(posts []api.Point) ([][3]api.Point, api.Errno) {
	p, ok := penOf(posts)
	if !ok {
		return nil, api.ErrArg
	}
	if p.area() > api.MaxSplit {
		return nil, api.ErrFull
	}
	var out [][3]api.Point
	for _, t := range p.split() {
		out = append(out, [3]api.Point{pointOf(t[0]), pointOf(t[1]), pointOf(t[2])})
	}
	return out, api.OK
}

// IsSplit reports whether the triangles are small, cover the pen and nothing else, and do not overlap.
func IsSplit(posts []api.Point, triangles [][3]api.Point) (bool, api.Errno) {
	p, ok := penOf(posts)
	if !ok {
		return false, api.ErrArg
	}
	if len(triangles) != p.area() {
		return false, api.OK
	}
	var list []triangle
	for _, corners := range triangles {
		t, ok := smallOf(corners)
		if !ok {
			return false, api.OK
		}
		list = append(list, t)
	}
	return p.isSplit(list), api.OK
}

// Opposite returns, for each side, the point u with which u.X x + u.Y y is 1 on the side.
func Opposite(posts []api.Point) ([]api.Point, api.Errno) {
	p, ok := penOf(posts)
	if !ok {
		return nil, api.ErrArg
	}
	if !p.roundCentre() {
		return nil, api.ErrState
	}
	var out []api.Point
	for a, b := range p.sides() {
		// No point of the grid is between 0, 0 and the side, so that both divisions leave no rest.
		d := turn(spot{}, a, b)
		out = append(out, api.Point{X: (b[1] - a[1]) / d, Y: (a[0] - b[0]) / d})
	}
	return out, api.OK
}

// Sheared returns the posts (by[0] x + by[1] y, by[2] x + by[3] y).
func Sheared(posts []api.Point, by [4]int) ([]api.Point, api.Errno) {
	p, ok := penOf(posts)
	if !ok || !shears(by) {
		return nil, api.ErrArg
	}
	var out []api.Point
	for _, s := range p {
		q := spot{by[0]*s[0] + by[1]*s[1], by[2]*s[0] + by[3]*s[1]}
		if !within(q, api.MaxAt) {
			return nil, api.ErrArg
		}
		out = append(out, pointOf(q))
	}
	return out, api.OK
}

// shears reports whether the numbers are in range, and keep areas.
func shears(by [4]int) bool {
	if !within(spot{by[0], by[1]}, api.MaxAt) || !within(spot{by[2], by[3]}, api.MaxAt) {
		return false
	}
	d := by[0]*by[3] - by[1]*by[2]
	return d == 1 || d == -1
}
