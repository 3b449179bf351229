package pens_test

import (
	"math/rand/v2"
	"slices"
	"testing"

	"droveway/api"
	"droveway/pens"
)

func TestP1_7Pick(t *testing.T) {
	for _, posts := range append(randomPens(1000), huge) {
		a, _ := pens.Area(posts)
		b, i, _ := pens.Count(posts)
		if a != 2*i+b-2 {
			t.Error(posts, a, b, i)
		}
		low, high := box(posts)
		seen := map[int]int{}
		for x := low.X; x <= high.X; x++ {
			for y := low.Y; y <= high.Y; y++ {
				n, _ := pens.Where(posts, api.Point{X: x, Y: y})
				seen[n]++
			}
		}
		if seen[0] != b || seen[1] != i {
			t.Error(posts, seen, b, i)
		}
	}
}

func TestP1_8Ehrhart(t *testing.T) {
	for _, posts := range append(randomPens(300), huge) {
		a, _ := pens.Area(posts)
		b, _, _ := pens.Count(posts)
		for by := 1; by <= 1000; by += 37 {
			all, some, e := pens.Grown(posts, by)
			if 2*all != a*by*by+b*by+2 || 2*some != a*by*by-b*by+2 || e != api.OK {
				t.Error(posts, by, all, some, e)
			}
		}
	}
}

func TestP1_9Split(t *testing.T) {
	r := rand.New(rand.NewPCG(13, 14))
	for _, posts := range randomPens(500) {
		l, e := pens.Split(posts)
		if e != api.OK {
			continue
		}
		if a, _ := pens.Area(posts); a != len(l) {
			t.Error(posts, a, len(l))
		}
		i := r.IntN(len(l))
		fewer := slices.Delete(slices.Clone(l), i, i+1)
		for _, list := range [][][3]api.Point{fewer, append(slices.Clone(l), l[i])} {
			if ok, e := pens.IsSplit(posts, list); ok || e != api.OK {
				t.Error(posts, len(list), ok, e)
			}
		}
	}
}

func TestP1_10Scott(t *testing.T) {
	r := rand.New(rand.NewPCG(15, 16))
	most := map[int]int{}
	for i := range 20000 {
		posts, e := pens.Hull(randomPoints(r, 3+r.IntN(6), 1+i%6))
		if e != api.OK {
			continue
		}
		if b, i, _ := pens.Count(posts); i > 0 {
			most[i] = max(most[i], b)
			if b > 2*i+7 {
				t.Error(posts, b, i)
			}
		}
	}
	// Just one point inside goes with nine on the border, as in the triangle of side 3; more points with 2 i + 6.
	if most[1] != 9 || most[2] != 10 {
		t.Error(most)
	}
}

func TestP1_11Twelve(t *testing.T) {
	borders := map[int]bool{}
	for _, posts := range rounds(t) {
		other, e := pens.Opposite(posts)
		if e != api.OK {
			t.Fatal(posts, e)
		}
		a, _, _ := pens.Count(posts)
		b, i, e := pens.Count(other)
		borders[a] = true
		if a+b != 12 || i != 1 || e != api.OK {
			t.Error(posts, other, a, b, i, e)
		}
		again, e := pens.Opposite(other)
		if e != api.OK || !slices.Equal(again, append(slices.Clone(posts[1:]), posts[0])) {
			t.Error(posts, other, again, e)
		}
	}
	for n := 3; n <= 9; n++ {
		if !borders[n] {
			t.Error("no pen with that many points on its border", n)
		}
	}
}

// alike are pens that have the same numbers as the given one.
func alike(posts []api.Point) [][]api.Point {
	turned := slices.Clone(posts)
	slices.Reverse(turned)
	out := [][]api.Point{turned}
	for i := range posts {
		out = append(out, append(slices.Clone(posts[i:]), posts[:i]...))
	}
	for _, by := range [][4]int{{1, 1, 0, 1}, {1, 0, -2, 1}, {2, 1, 1, 1}, {0, -1, 1, 0}, {-1, 0, 0, 1}, {3, 2, 4, 3}} {
		if l, e := pens.Sheared(posts, by); e == api.OK {
			out = append(out, l)
		}
	}
	return out
}

func TestP1_12Sheared(t *testing.T) {
	for _, posts := range randomPens(400) {
		a, _ := pens.Area(posts)
		b, i, _ := pens.Count(posts)
		c, _ := pens.Convex(posts)
		list := alike(posts)
		if len(list) < len(posts)+4 {
			t.Error("too few are sheared", posts)
		}
		for _, l := range list {
			a2, e := pens.Area(l)
			b2, i2, f := pens.Count(l)
			c2, g := pens.Convex(l)
			if a != a2 || b != b2 || i != i2 || c != c2 || e != api.OK || f != api.OK || g != api.OK {
				t.Error(posts, l, a2, b2, i2, c2, e, f, g)
			}
		}
	}
}

func TestP1_13Hull(t *testing.T) {
	r := rand.New(rand.NewPCG(17, 18))
	for i := range 2000 {
		points := randomPoints(r, 3+r.IntN(28), 1+i%9)
		posts, e := pens.Hull(points)
		if e != api.OK {
			continue
		}
		for _, p := range points {
			if n, e := pens.Where(posts, p); n < 0 || e != api.OK {
				t.Error(points, posts, p, n, e)
			}
		}
		if ok, e := pens.Convex(posts); !ok || e != api.OK || straight(posts) {
			t.Error(points, posts, e)
		}
		for _, p := range posts {
			if !slices.Contains(points, p) {
				t.Error(points, posts, p)
			}
		}
	}
}

// TestP1_13Same: the hull of a convex pen is the pen, from the least post on and to the left.
func TestP1_13Same(t *testing.T) {
	n := 0
	for _, posts := range randomPens(2000) {
		if ok, _ := pens.Convex(posts); !ok || straight(posts) {
			continue
		}
		n++
		want := slices.Clone(posts)
		if !turnsLeft(want) {
			slices.Reverse(want)
		}
		least := slowHull(posts)[0]
		i := slices.Index(want, least)
		want = append(slices.Clone(want[i:]), want[:i]...)
		if l, e := pens.Hull(posts); !slices.Equal(l, want) || e != api.OK {
			t.Error(posts, l, e)
		}
	}
	if n < 100 {
		t.Error("too few convex pens", n)
	}
}
