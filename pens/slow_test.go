package pens_test

import (
	"math"
	"math/big"
	"math/rand/v2"
	"slices"
	"testing"

	"droveway/api"
	"droveway/pens"
)

// This file has the tests' own ways to tell what the package tells: slow ones, by looking at every point and every pair.

func at(l ...int) []api.Point {
	var out []api.Point
	for i := 0; i < len(l); i += 2 {
		out = append(out, api.Point{X: l[i], Y: l[i+1]})
	}
	return out
}

// Pens that many tests use.
var (
	square = at(0, 0, 2, 0, 2, 2, 0, 2)
	nine   = at(0, 0, 3, 0, 0, 3)
	small  = at(1, 0, 0, 1, -1, -1)
	arrow  = at(0, 0, 4, 0, 1, 1, 0, 4)
	flat   = at(0, 0, 1, 0, 2, 0, 2, 2)
	comb   = at(0, 0, 8, 0, 8, 5, 6, 1, 5, 4, 4, 1, 3, 4, 2, 1, 1, 5, 0, 1)
	huge   = at(-50, -50, 50, -50, 50, 50, -50, 50)
)

// notPens are lists that are no pens.
var notPens = [][]api.Point{
	// Too few posts, too many, and no area.
	nil,
	{},
	at(0, 0),
	at(0, 0, 1, 0),
	make([]api.Point, 11),
	at(0, 0, 1, 0, 2, 0, 3, 0, 4, 0, 5, 0, 6, 0, 7, 0, 8, 0, 9, 0, 0, 9),
	at(0, 0, 1, 0, 2, 0),
	at(0, 0, 2, 0, 1, 0),
	// A side of length 0.
	at(0, 0, 0, 0, 1, 0),
	at(1, 0, 0, 0, 0, 0),
	at(0, 0, 1, 0, 0, 0),
	at(0, 0, 2, 0, 0, 2, 0, 0),
	at(0, 0, 2, 0, 2, 0, 0, 2),
	// Sides that cross.
	at(0, 0, 2, 2, 2, 0, 0, 2),
	at(0, 0, 4, 0, 4, 4, 0, 4, 0, 3, 5, 3, 5, 1, 0, 1),
	// A side that leads back over the one before it.
	at(0, 0, 2, 0, 1, 0, 1, 1),
	at(1, 0, 1, 1, 0, 0, 2, 0),
	// A post on a side, a post twice, and sides on one line.
	at(0, 0, 4, 0, 4, 4, 2, 0),
	at(0, 0, 4, 0, 2, 2, 2, 0, 1, 3),
	at(0, 0, 2, 0, 1, 1, 2, 2, 0, 2, 1, 1),
	at(0, 0, 4, 0, 4, 2, 3, 0, 1, 0, 0, 2),
	// Out of range.
	at(0, 0, 51, 0, 0, 1),
	at(0, 0, 1, 0, 0, -51),
	at(0, 0, 1, 0, -51, 1),
	at(0, 0, 1, 0, 1, 51),
	at(0, 0, math.MaxInt, 0, 0, math.MaxInt),
	at(0, 0, 1, 0, 0, math.MinInt),
	at(math.MinInt, math.MinInt, math.MaxInt, 0, 0, math.MaxInt),
}

func minus(a, b api.Point) api.Point { return api.Point{X: a.X - b.X, Y: a.Y - b.Y} }

func cross(a, b api.Point) int { return a.X*b.Y - a.Y*b.X }

// common is how many points two sides have in common: 0, 1, or 2 for more.
func common(a, b, c, d api.Point) int {
	r, s := minus(b, a), minus(d, c)
	if cross(r, s) != 0 {
		t := big.NewRat(int64(cross(minus(c, a), s)), int64(cross(r, s)))
		u := big.NewRat(int64(cross(minus(c, a), r)), int64(cross(r, s)))
		zero, one := big.NewRat(0, 1), big.NewRat(1, 1)
		if t.Cmp(zero) < 0 || t.Cmp(one) > 0 || u.Cmp(zero) < 0 || u.Cmp(one) > 0 {
			return 0
		}
		return 1
	}
	if cross(r, minus(c, a)) != 0 {
		return 0
	}
	along := func(p api.Point) int { return (p.X-a.X)*r.X + (p.Y-a.Y)*r.Y }
	from := max(0, min(along(c), along(d)))
	to := min(along(b), max(along(c), along(d)))
	if from < to {
		return 2
	}
	if from == to {
		return 1
	}
	return 0
}

func slowIsPen(posts []api.Point) bool {
	n := len(posts)
	if n < 3 || n > 10 {
		return false
	}
	for i, a := range posts {
		b := posts[(i+1)%n]
		if a == b || min(a.X, a.Y) < -50 || max(a.X, a.Y) > 50 {
			return false
		}
	}
	for i, a := range posts {
		for j := range i {
			most := 0
			if i == j+1 || j == 0 && i == n-1 {
				most = 1
			}
			if common(posts[j], posts[j+1], a, posts[(i+1)%n]) > most {
				return false
			}
		}
	}
	return true
}

// slowBorder returns the points of the grid on the sides.
func slowBorder(posts []api.Point) map[api.Point]bool {
	out := map[api.Point]bool{}
	for i, a := range posts {
		d := minus(posts[(i+1)%len(posts)], a)
		long := max(d.X, -d.X, d.Y, -d.Y)
		for k := range long {
			if d.X*k%long == 0 && d.Y*k%long == 0 {
				out[api.Point{X: a.X + d.X*k/long, Y: a.Y + d.Y*k/long}] = true
			}
		}
	}
	return out
}

// slowWhere sums the angles under which the sides are seen.
func slowWhere(posts []api.Point, border map[api.Point]bool, p api.Point) int {
	if border[p] {
		return 0
	}
	sum := 0.0
	for i, a := range posts {
		r, s := minus(a, p), minus(posts[(i+1)%len(posts)], p)
		sum += math.Atan2(float64(cross(r, s)), float64(r.X*s.X+r.Y*s.Y))
	}
	if math.Abs(sum) > 1 {
		return 1
	}
	return -1
}

// slowCount returns the number of points on the border, and of those inside.
func slowCount(posts []api.Point) (int, int) {
	border := slowBorder(posts)
	low, high := box(posts)
	inside := 0
	for x := low.X; x <= high.X; x++ {
		for y := low.Y; y <= high.Y; y++ {
			if slowWhere(posts, border, api.Point{X: x, Y: y}) > 0 {
				inside++
			}
		}
	}
	return len(border), inside
}

func box(posts []api.Point) (api.Point, api.Point) {
	low, high := posts[0], posts[0]
	for _, p := range posts {
		low = api.Point{X: min(low.X, p.X), Y: min(low.Y, p.Y)}
		high = api.Point{X: max(high.X, p.X), Y: max(high.Y, p.Y)}
	}
	return low, high
}

// slowArea is twice the area, by the strips under the sides.
func slowArea(posts []api.Point) int {
	sum := 0
	for i, a := range posts {
		b := posts[(i+1)%len(posts)]
		sum += (b.X - a.X) * (a.Y + b.Y)
	}
	return max(sum, -sum)
}

// slowConvex reports whether no side has posts on both of its sides.
func slowConvex(posts []api.Point) bool {
	for i, a := range posts {
		left, right := false, false
		for _, p := range posts {
			c := cross(minus(posts[(i+1)%len(posts)], a), minus(p, a))
			left = left || c > 0
			right = right || c < 0
		}
		if left && right {
			return false
		}
	}
	return true
}

func straight(posts []api.Point) bool {
	n := len(posts)
	for i, p := range posts {
		if cross(minus(p, posts[(i+n-1)%n]), minus(posts[(i+1)%n], p)) == 0 {
			return true
		}
	}
	return false
}

func twice(t [3]api.Point) int {
	c := cross(minus(t[1], t[0]), minus(t[2], t[0]))
	return max(c, -c)
}

// overlap reports whether two triangles have an area in common: no side parts them.
func overlap(s, t [3]api.Point) bool {
	return !parts(s, t) && !parts(t, s)
}

// parts reports whether a side of s has all of t on its outer side.
func parts(s, t [3]api.Point) bool {
	for i, a := range s {
		side := minus(s[(i+1)%3], a)
		in := cross(side, minus(s[(i+2)%3], a))
		outside := true
		for _, p := range t {
			c := cross(side, minus(p, a))
			outside = outside && (c == 0 || (c > 0) != (in > 0))
		}
		if outside {
			return true
		}
	}
	return false
}

// inPen reports whether a triangle is a part of the pen: its middle is inside, and its sides cross none of the pen.
func inPen(posts []api.Point, t [3]api.Point) bool {
	var thrice []api.Point
	for _, p := range posts {
		thrice = append(thrice, api.Point{X: 3 * p.X, Y: 3 * p.Y})
	}
	middle := api.Point{X: t[0].X + t[1].X + t[2].X, Y: t[0].Y + t[1].Y + t[2].Y}
	if slowWhere(thrice, slowBorder(thrice), middle) != 1 {
		return false
	}
	for i, a := range posts {
		b := posts[(i+1)%len(posts)]
		for k, c := range t {
			d := t[(k+1)%3]
			of := func(a, b, p api.Point) int { return cross(minus(b, a), minus(p, a)) }
			if of(a, b, c)*of(a, b, d) < 0 && of(c, d, a)*of(c, d, b) < 0 {
				return false
			}
		}
	}
	return true
}

func slowIsSplit(posts []api.Point, triangles [][3]api.Point) bool {
	if len(triangles) != slowArea(posts) {
		return false
	}
	for i, t := range triangles {
		if twice(t) != 1 || !inPen(posts, t) {
			return false
		}
		for _, s := range triangles[:i] {
			if overlap(s, t) {
				return false
			}
		}
	}
	return true
}

// slowHull returns the points that are in no triangle and on no side of others, ascending.
func slowHull(points []api.Point) []api.Point {
	list := slices.Clone(points)
	slices.SortFunc(list, func(p, q api.Point) int { return slices.Compare([]int{p.X, p.Y}, []int{q.X, q.Y}) })
	list = slices.Compact(list)
	var out []api.Point
	for _, p := range list {
		if !among(list, p) {
			out = append(out, p)
		}
	}
	return out
}

// among reports whether p is in a triangle or on a side of others.
func among(list []api.Point, p api.Point) bool {
	for _, a := range list {
		for _, b := range list {
			if between(a, p, b) {
				return true
			}
			for _, c := range list {
				if cross(minus(b, a), minus(p, a)) > 0 && cross(minus(c, b), minus(p, b)) > 0 && cross(minus(a, c), minus(p, c)) > 0 {
					return true
				}
			}
		}
	}
	return false
}

// between reports whether p is on the side from a to b.
func between(a, p, b api.Point) bool {
	r, s := minus(a, p), minus(b, p)
	return cross(r, s) == 0 && r.X*s.X+r.Y*s.Y < 0
}

// randomPoints returns n points with numbers from -size to size.
func randomPoints(r *rand.Rand, n, size int) []api.Point {
	var out []api.Point
	for range n {
		out = append(out, api.Point{X: r.IntN(2*size+1) - size, Y: r.IntN(2*size+1) - size})
	}
	return out
}

// randomPen returns a pen: points in any order, or, so that there are pens of many posts, in their order around one.
func randomPen(r *rand.Rand, size int) []api.Point {
	for {
		n := 3 + r.IntN(8)
		posts := randomPoints(r, n, size)
		if n > 5 {
			c := randomPoints(r, 1, size)[0]
			slices.SortFunc(posts, func(p, q api.Point) int {
				a := math.Atan2(float64(p.Y-c.Y)+0.1, float64(p.X-c.X)+0.2)
				b := math.Atan2(float64(q.Y-c.Y)+0.1, float64(q.X-c.X)+0.2)
				return int(1000000 * (a - b))
			})
			if r.IntN(2) == 0 {
				slices.Reverse(posts)
			}
		}
		if slowIsPen(posts) {
			return posts
		}
	}
}

// randomPens returns pens of many sizes, the same ones each time.
func randomPens(n int) [][]api.Point {
	r := rand.New(rand.NewPCG(1, 2))
	out := [][]api.Point{square, nine, small, arrow, flat, comb}
	for i := range n {
		out = append(out, randomPen(r, []int{1, 2, 3, 5, 9}[i%5]))
	}
	return out
}

// rounds are convex pens without straight posts that have just 0, 0 inside, in both directions.
func rounds(t *testing.T) [][]api.Point {
	r := rand.New(rand.NewPCG(3, 4))
	var out [][]api.Point
	for range 40000 {
		posts, e := pens.Hull(randomPoints(r, 3+r.IntN(5), 3))
		if e != api.OK || slowWhere(posts, slowBorder(posts), api.Point{}) != 1 {
			continue
		}
		if _, inside := slowCount(posts); inside != 1 {
			continue
		}
		if r.IntN(2) == 0 {
			slices.Reverse(posts)
		}
		out = append(out, posts)
	}
	if len(out) < 100 {
		t.Fatal("too few pens around one point", len(out))
	}
	return out
}
