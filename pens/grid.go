package pens

import (
	"iter"

	"droveway/api"
)

// spot is a point of the grid: X, then Y.
type spot [2]int

// pen is the posts of a list that was found to be a pen.
type pen []spot

// turn is above 0 if the way from a over b to c turns to the left, below 0 if it turns to the right, and 0 if it does not
// turn; its size is twice the area of the triangle.
func turn(a, b, c spot) int {
	return (b[0]-a[0])*(c[1]-a[1]) - (b[1]-a[1])*(c[0]-a[0])
}

// within reports whether both numbers are from -most to most.
func within(s spot, most int) bool {
	return -most <= s[0] && s[0] <= most && -most <= s[1] && s[1] <= most
}

// onSide reports whether s is on the side from a to b.
func onSide(s, a, b spot) bool {
	return turn(a, b, s) == 0 &&
		min(a[0], b[0]) <= s[0] && s[0] <= max(a[0], b[0]) &&
		min(a[1], b[1]) <= s[1] && s[1] <= max(a[1], b[1])
}

// steps is into how many parts the points of the grid cut the side from a to b.
func steps(a, b spot) int {
	x, y := b[0]-a[0], b[1]-a[1]
	for y != 0 {
		x, y = y, x%y
	}
	return max(x, -x)
}

func spotOf(p api.Point) spot { return spot{p.X, p.Y} }

func pointOf(s spot) api.Point { return api.Point{X: s[0], Y: s[1]} }

func pointsOf(spots []spot) []api.Point {
	out := make([]api.Point, 0, len(spots))
	for _, s := range spots {
		out = append(out, pointOf(s))
	}
	return out
}

// penOf returns the posts, and whether they are a pen.
func penOf(posts []api.Point) (pen, bool) {
	if len(posts) < 3 || len(posts) > api.MaxPosts {
		return nil, false
	}
	p := make(pen, 0, len(posts))
	for _, post := range posts {
		s := spotOf(post)
		if !within(s, api.MaxAt) {
			return nil, false
		}
		p = append(p, s)
	}
	return p, p.simple()
}

// simple reports whether the sides have no more in common than those of a pen.
func (p pen) simple() bool {
	n := len(p)
	for i, a := range p {
		b, c := p[(i+1)%n], p[(i+2)%n]
		if a == b || turnsBack(a, b, c) {
			return false
		}
		for j := i + 2; j < n; j++ {
			k := (j + 1) % n
			if k != i && meet(a, b, p[j], p[k]) {
				return false
			}
		}
	}
	return true
}

// turnsBack reports whether the side from b to c leads back over the one from a to b.
func turnsBack(a, b, c spot) bool {
	ahead := (b[0]-a[0])*(c[0]-b[0]) + (b[1]-a[1])*(c[1]-b[1])
	return turn(a, b, c) == 0 && ahead < 0
}

// meet reports whether the sides from a to b and from c to d have a point in common.
func meet(a, b, c, d spot) bool {
	if onSide(a, c, d) || onSide(b, c, d) || onSide(c, a, b) || onSide(d, a, b) {
		return true
	}
	return differ(turn(a, b, c), turn(a, b, d)) && differ(turn(c, d, a), turn(c, d, b))
}

// differ reports whether one of two turns is to the left and the other one to the right.
func differ(x, y int) bool {
	return x < 0 && 0 < y || y < 0 && 0 < x
}

// sides walks around the posts: it yields both ends of each side.
func (p pen) sides() iter.Seq2[spot, spot] {
	return func(yield func(spot, spot) bool) {
		for i, a := range p {
			if !yield(a, p[(i+1)%len(p)]) {
				return
			}
		}
	}
}

// signed is twice the area, and below 0 if the posts go around to the right.
func (p pen) signed() int {
	sum := 0
	for a, b := range p.sides() {
		sum += turn(spot{}, a, b)
	}
	return sum
}

func (p pen) area() int {
	sum := p.signed()
	return max(sum, -sum)
}

func (p pen) border() int {
	sum := 0
	for a, b := range p.sides() {
		sum += steps(a, b)
	}
	return sum
}

// grown is the number of points inside or on the border of the pen with times as great numbers; for -times it is the
// number of those inside (Ehrhart's polynomial and its reciprocity), so that no point has to be looked at.
func (p pen) grown(times int) int {
	return (p.area()*times*times + p.border()*times + 2) / 2
}

func (p pen) inside() int {
	return p.grown(-1)
}

// where is 1 for a spot inside, 0 for one on the border, and -1 for any other one.
func (p pen) where(s spot) int {
	side := -1
	for a, b := range p.sides() {
		if onSide(s, a, b) {
			return 0
		}
		// A way from s to the right changes sides at each side that it crosses. One end counts as above only if it is
		// above strictly, so that a way through a post crosses one of its sides, or none or both where it only touches.
		up := b[1] > a[1]
		if (a[1] > s[1]) != (b[1] > s[1]) && (turn(a, b, s) > 0) == up {
			side = -side
		}
	}
	return side
}

// bends returns how many posts turn to the left, and how many to the right.
func (p pen) bends() (int, int) {
	left, right := 0, 0
	before := p[len(p)-1]
	for a, b := range p.sides() {
		t := turn(before, a, b)
		if t > 0 {
			left++
		}
		if t < 0 {
			right++
		}
		before = a
	}
	return left, right
}

// roundCentre reports whether the pen is convex, without straight posts, and has just the spot 0, 0 inside.
func (p pen) roundCentre() bool {
	left, right := p.bends()
	strict := left == len(p) || right == len(p)
	return strict && p.inside() == 1 && p.where(spot{}) == 1
}
