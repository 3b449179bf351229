package pens_test

import (
	"math"
	"math/rand/v2"
	"slices"
	"testing"

	"droveway/api"
	"droveway/pens"
)

// wild are numbers that are in range, just out of it, and far away.
var wild = []int{math.MinInt, math.MinInt + 1, -1 << 62, -1<<32 - 1, -1<<20 - 1, -1001, -51, -50, -1, 0, 1, 2, 50, 51, 1000, 1001, 1<<20 + 1, 1<<32 + 1, 1 << 62, math.MaxInt}

// everyError calls all functions that ask for a pen, and returns their errors; with an error, nothing else may be returned.
func everyError(t *testing.T, posts []api.Point) []api.Errno {
	t.Helper()
	a, e1 := pens.Area(posts)
	b, c, e2 := pens.Count(posts)
	d, e3 := pens.Where(posts, api.Point{})
	f, g, e4 := pens.Grown(posts, 1)
	h, e5 := pens.Convex(posts)
	i, e6 := pens.Split(posts)
	j, e7 := pens.IsSplit(posts, nil)
	k, e8 := pens.Opposite(posts)
	l, e9 := pens.Sheared(posts, [4]int{1, 0, 0, 1})
	errs := []api.Errno{e1, e2, e3, e4, e5, e6, e7, e8, e9}
	if !slices.Contains(errs, api.OK) && (a != 0 || b != 0 || c != 0 || d != 0 || f != 0 || g != 0 || h || len(i) != 0 || j || len(k) != 0 || len(l) != 0) {
		t.Error("results with an error", posts)
	}
	return errs
}

func TestNotPens(t *testing.T) {
	for _, posts := range notPens {
		if slowIsPen(posts) {
			t.Error("the test is wrong about", posts)
		}
		if pens.IsPen(posts) {
			t.Error("a pen:", posts)
		}
		for i, e := range everyError(t, posts) {
			if e != api.ErrArg {
				t.Error(posts, "function", i, e)
			}
		}
	}
}

// TestNotPenFirst: that the posts are no pen comes before any other error.
func TestNotPenFirst(t *testing.T) {
	line := at(0, 0, 1, 0, 2, 0)
	if n, e := pens.Where(line, api.Point{X: 1 << 30}); n != 0 || e != api.ErrArg {
		t.Error(n, e)
	}
	far := at(-51, 0, 51, 0, 0, 51)
	if l, e := pens.Split(far); len(l) != 0 || e != api.ErrArg {
		t.Error(l, e)
	}
	if l, e := pens.Opposite(far); len(l) != 0 || e != api.ErrArg {
		t.Error(l, e)
	}
}

func TestIsPen(t *testing.T) {
	for _, posts := range append(randomPens(300), huge, at(0, 0, 1, 0, 2, 0, 3, 0, 4, 0, 5, 0, 6, 0, 7, 0, 8, 0, 0, 9), at(-50, -50, 50, 49, 50, 50)) {
		if !pens.IsPen(posts) {
			t.Error("no pen:", posts)
		}
	}
}

// TestIsPenAll looks at all lists of three to five points of a small grid, and at many longer ones.
func TestIsPenAll(t *testing.T) {
	var look func(posts []api.Point, most int)
	look = func(posts []api.Point, most int) {
		if got, want := pens.IsPen(posts), slowIsPen(posts); got != want {
			t.Fatal(posts, got, want)
		}
		if len(posts) == most {
			return
		}
		for i := range 9 {
			look(append(slices.Clone(posts), api.Point{X: i / 3, Y: i % 3}), most)
		}
	}
	look(nil, 5)
	r := rand.New(rand.NewPCG(5, 6))
	for i := range 30000 {
		posts := randomPoints(r, 4+r.IntN(7), 2+i%9)
		if got, want := pens.IsPen(posts), slowIsPen(posts); got != want {
			t.Fatal(posts, got, want)
		}
	}
}

// TestP1Any calls the functions with any numbers: none of them panics, and what is out of range is refused.
func TestP1Any(t *testing.T) {
	r := rand.New(rand.NewPCG(7, 8))
	any := func() int { return wild[r.IntN(len(wild))] }
	for range 20000 {
		var posts []api.Point
		for range r.IntN(13) {
			posts = append(posts, api.Point{X: any(), Y: any()})
		}
		want := slices.Repeat([]api.Errno{api.ErrArg}, 9)
		if got := everyError(t, posts); !pens.IsPen(posts) && !slices.Equal(got, want) {
			t.Error(posts, got)
		}
		pens.Hull(posts)
		p := api.Point{X: any(), Y: any()}
		far := min(p.X, p.Y) < -1<<20 || max(p.X, p.Y) > 1<<20
		if _, e := pens.Where(square, p); (e == api.ErrRange) != far || (e == api.OK) == far {
			t.Error(p, e)
		}
		times := any()
		if _, _, e := pens.Grown(square, times); (e == api.OK) != (1 <= times && times <= 1000) {
			t.Error(times, e)
		}
		corners := [3]api.Point{{X: any(), Y: any()}, {X: any(), Y: any()}, {X: any(), Y: any()}}
		if ok, e := pens.IsSplit(at(0, 0, 1, 0, 0, 1), [][3]api.Point{corners}); ok || e != api.OK {
			t.Error(corners, ok, e)
		}
		by := [4]int{any(), any(), any(), any()}
		if _, e := pens.Sheared(square, by); e == api.OK && (slices.Min(by[:]) < -50 || slices.Max(by[:]) > 50) {
			t.Error(by)
		}
	}
}

// TestP2Same calls functions twice, and changes what the first call returned: nothing is kept, and no argument is changed.
func TestP2Same(t *testing.T) {
	for _, posts := range append(randomPens(200), rounds(t)[:20]...) {
		before := slices.Clone(posts)
		for _, f := range []func() ([]api.Point, api.Errno){
			func() ([]api.Point, api.Errno) { return pens.Hull(posts) },
			func() ([]api.Point, api.Errno) { return pens.Opposite(posts) },
			func() ([]api.Point, api.Errno) { return pens.Sheared(posts, [4]int{1, 0, 0, 1}) },
		} {
			first, e := f()
			kept := slices.Clone(first)
			clear(first)
			if second, f := f(); !slices.Equal(kept, second) || e != f {
				t.Error(posts, kept, second, e, f)
			}
		}
		first, e := pens.Split(posts)
		kept := slices.Clone(first)
		is, f := pens.IsSplit(posts, first)
		if !slices.Equal(kept, first) || is != (e == api.OK) || f != api.OK {
			t.Error(posts, is, f)
		}
		clear(first)
		if second, f := pens.Split(posts); !slices.Equal(kept, second) || e != f {
			t.Error(posts, kept, second, e, f)
		}
		everyError(t, posts)
		if !slices.Equal(before, posts) {
			t.Error("changed:", before, posts)
		}
	}
}

func TestP1_1AreaCount(t *testing.T) {
	for _, c := range []struct {
		posts                []api.Point
		area, border, inside int
	}{
		{square, 8, 8, 1}, {nine, 9, 9, 1}, {small, 3, 3, 1}, {arrow, 8, 10, 0}, {flat, 4, 6, 0},
		{at(0, 0, 0, 1, 1, 0), 1, 3, 0}, {huge, 20000, 400, 9801}, {at(-50, -50, 50, 49, 50, 50), 100, 102, 0},
	} {
		a, e := pens.Area(c.posts)
		b, i, f := pens.Count(c.posts)
		if a != c.area || b != c.border || i != c.inside || e != api.OK || f != api.OK {
			t.Error(c, a, b, i, e, f)
		}
	}
	for _, posts := range randomPens(600) {
		a, _ := pens.Area(posts)
		b, i, _ := pens.Count(posts)
		c, k := slowCount(posts)
		if a != slowArea(posts) || b != c || i != k {
			t.Error(posts, a, b, i, c, k)
		}
	}
}

func TestP1_1Where(t *testing.T) {
	for _, posts := range randomPens(300) {
		border := slowBorder(posts)
		low, high := box(posts)
		for x := low.X - 2; x <= high.X+2; x++ {
			for y := low.Y - 2; y <= high.Y+2; y++ {
				p := api.Point{X: x, Y: y}
				if n, e := pens.Where(posts, p); n != slowWhere(posts, border, p) || e != api.OK {
					t.Fatal(posts, p, n, e)
				}
			}
		}
	}
	for _, x := range []int{-1 << 20, -51, 0, 51, 1 << 20} {
		for _, y := range []int{-1 << 20, 1 << 20} {
			for _, p := range []api.Point{{X: x, Y: y}, {X: y, Y: x}} {
				if n, e := pens.Where(huge, p); n != -1 || e != api.OK {
					t.Error(p, n, e)
				}
			}
		}
	}
	for _, far := range []int{-1<<20 - 1, 1<<20 + 1, math.MinInt, math.MaxInt} {
		for _, p := range []api.Point{{X: far}, {Y: far}, {X: far, Y: far}} {
			if n, e := pens.Where(huge, p); n != 0 || e != api.ErrRange {
				t.Error(p, n, e)
			}
		}
	}
}

func times(posts []api.Point, by int) []api.Point {
	var out []api.Point
	for _, p := range posts {
		out = append(out, api.Point{X: by * p.X, Y: by * p.Y})
	}
	return out
}

func TestP1_2Grown(t *testing.T) {
	for _, c := range []struct {
		posts            []api.Point
		times, all, some int
	}{{square, 2, 25, 9}, {square, 1, 9, 1}, {nine, 1000, 4504501, 4495501}, {huge, 1000, 100001 * 100001, 99999 * 99999}} {
		if a, b, e := pens.Grown(c.posts, c.times); a != c.all || b != c.some || e != api.OK {
			t.Error(c, a, b, e)
		}
	}
	for _, posts := range randomPens(150) {
		for by := 1; by <= 4; by++ {
			a, b, e := pens.Grown(posts, by)
			if border, inside := slowCount(times(posts, by)); a != border+inside || b != inside || e != api.OK {
				t.Error(posts, by, a, b, e, border, inside)
			}
		}
	}
	for _, by := range []int{0, -1, -1000, 1001, math.MinInt, math.MaxInt, 1 << 32} {
		if a, b, e := pens.Grown(square, by); a != 0 || b != 0 || e != api.ErrArg {
			t.Error(by, a, b, e)
		}
	}
}

func TestP1_3Convex(t *testing.T) {
	for _, c := range []struct {
		posts []api.Point
		want  bool
	}{{square, true}, {arrow, false}, {flat, true}, {comb, false}, {at(2, 2, 2, 0, 1, 0, 0, 0), true}, {at(0, 4, 1, 1, 4, 0, 0, 0), false}, {at(1, 1, 0, 4, 0, 0, 4, 0), false}} {
		if ok, e := pens.Convex(c.posts); ok != c.want || e != api.OK {
			t.Error(c, ok, e)
		}
	}
	seen := [2]int{}
	for _, posts := range randomPens(1000) {
		want := slowConvex(posts)
		if want {
			seen[1]++
		} else {
			seen[0]++
		}
		if ok, e := pens.Convex(posts); ok != want || e != api.OK {
			t.Error(posts, ok, e)
		}
	}
	if min(seen[0], seen[1]) < 50 {
		t.Error("the pens are too much alike", seen)
	}
}

func TestP1_3Hull(t *testing.T) {
	for _, c := range []struct{ points, want []api.Point }{
		{append(at(1, 1), square...), square},
		{append(at(1, 0, 0, 1), arrow...), at(0, 0, 4, 0, 0, 4)},
		{at(0, 2, 2, 2, 2, 0, 0, 0), square},
		{at(0, 0, 0, 0, 1, 0, 0, 1, 0, 1, 1, 0), at(0, 0, 1, 0, 0, 1)},
		{at(50, 50, -50, 50, 50, -50, -50, -50), huge},
		{at(0, 2, 2, 0, 5, -1, 8, -1, 11, 0, 13, 2, 13, 8, 11, 10, 8, 11, 5, 11), at(0, 2, 2, 0, 5, -1, 8, -1, 11, 0, 13, 2, 13, 8, 11, 10, 8, 11, 5, 11)},
	} {
		if l, e := pens.Hull(c.points); !slices.Equal(l, c.want) || e != api.OK {
			t.Error(c, l, e)
		}
	}
	r := rand.New(rand.NewPCG(9, 10))
	for i := range 1500 {
		points := randomPoints(r, r.IntN(13), 1+i%8)
		want := slowHull(points)
		l, e := pens.Hull(points)
		switch {
		case len(want) < 3:
			if len(l) != 0 || e != api.ErrPlan {
				t.Error(points, l, e)
			}
		case len(want) > 10:
			if len(l) != 0 || e != api.ErrFull {
				t.Error(points, l, e)
			}
		case e != api.OK || len(l) != len(want) || l[0] != want[0] || !turnsLeft(l):
			t.Error(points, l, e)
		default:
			for _, p := range l {
				if !slices.Contains(want, p) {
					t.Error(points, l, p)
				}
			}
		}
	}
}

// turnsLeft reports whether the posts turn to the left at each post.
func turnsLeft(posts []api.Point) bool {
	n := len(posts)
	for i, p := range posts {
		if cross(minus(p, posts[(i+n-1)%n]), minus(posts[(i+1)%n], p)) <= 0 {
			return false
		}
	}
	return true
}

func TestP1_3HullErrors(t *testing.T) {
	eleven := at(0, 2, 2, 0, 5, -1, 8, -1, 11, 0, 13, 2, 14, 5, 13, 8, 11, 10, 8, 11, 5, 11)
	thirty := append(slices.Clone(square), make([]api.Point, 26)...)
	for _, c := range []struct {
		points []api.Point
		want   api.Errno
	}{
		{nil, api.ErrPlan}, {at(3, 4), api.ErrPlan}, {at(3, 4, 3, 4, 3, 4), api.ErrPlan}, {at(1, 0, 0, 0), api.ErrPlan},
		{at(0, 0, 1, 1, 2, 2), api.ErrPlan}, {at(0, 0, 0, 7, 0, 3, 0, 7), api.ErrPlan}, {make([]api.Point, 30), api.ErrPlan},
		{make([]api.Point, 31), api.ErrLimit}, {append(at(0, 51), thirty...), api.ErrLimit}, {thirty, api.OK},
		{at(0, 51), api.ErrArg}, {at(0, 0, 1, 0, 0, 1, -51, 0), api.ErrArg}, {at(0, 0, math.MinInt, 0, math.MaxInt, 1), api.ErrArg},
		{append(slices.Clone(eleven), at(0, -51)...), api.ErrArg},
		{eleven, api.ErrFull}, {eleven[1:], api.OK},
	} {
		if l, e := pens.Hull(c.points); e != c.want || e != api.OK && len(l) != 0 {
			t.Error(c, l, e)
		}
	}
}

func TestP1_4Split(t *testing.T) {
	for _, posts := range append(randomPens(300), at(0, 0, 10, 0, 0, 12), at(-50, -50, 50, 49, 50, 50), at(0, 0, 1, 0, 0, 1), at(0, 0, 0, 1, 1, 0)) {
		l, e := pens.Split(posts)
		if area := slowArea(posts); area > 120 {
			if len(l) != 0 || e != api.ErrFull {
				t.Error(posts, l, e)
			}
			continue
		}
		if e != api.OK || !slowIsSplit(posts, l) {
			t.Error(posts, l, e)
		}
		if ok, e := pens.IsSplit(posts, l); !ok || e != api.OK {
			t.Error(posts, l, ok, e)
		}
	}
	for _, posts := range [][]api.Point{at(0, 0, 11, 0, 0, 11), huge} {
		if l, e := pens.Split(posts); len(l) != 0 || e != api.ErrFull {
			t.Error(posts, l, e)
		}
	}
}

func TestP1_4IsSplit(t *testing.T) {
	tri := func(l ...int) [3]api.Point { return [3]api.Point(at(l...)) }
	unit := at(0, 0, 1, 0, 1, 1, 0, 1)
	low, high := tri(0, 0, 1, 0, 1, 1), tri(0, 0, 1, 1, 0, 1)
	for i, c := range []struct {
		posts []api.Point
		list  [][3]api.Point
		want  bool
	}{
		{unit, [][3]api.Point{low, high}, true},
		{unit, [][3]api.Point{tri(1, 1, 0, 1, 0, 0), tri(1, 1, 1, 0, 0, 0)}, true},
		{unit, [][3]api.Point{tri(0, 0, 1, 0, 0, 1), tri(1, 1, 1, 0, 0, 1)}, true},
		{unit, nil, false},
		{unit, [][3]api.Point{low}, false},
		{unit, [][3]api.Point{low, high, low}, false},
		{unit, [][3]api.Point{low, low}, false},
		{unit, [][3]api.Point{low, tri(0, 0, 1, 0, 0, 1)}, false},
		{unit, [][3]api.Point{low, tri(0, 0, 1, 1, 1, 2)}, false},
		{unit, [][3]api.Point{low, tri(0, 0, 0, 0, 0, 1)}, false},
		{unit, [][3]api.Point{low, tri(0, 0, 0, 0, 0, 0)}, false},
		{unit, [][3]api.Point{tri(5, 5, 6, 5, 6, 6), tri(5, 5, 6, 6, 5, 6)}, false},
		// A triangle that is too great, one without area, and triangles whose areas sum to that of the pen.
		{at(0, 0, 2, 0, 0, 1), [][3]api.Point{tri(0, 0, 2, 0, 0, 1)}, false},
		{at(0, 0, 2, 0, 0, 1), [][3]api.Point{tri(0, 0, 2, 0, 0, 1), tri(0, 0, 1, 0, 2, 0)}, false},
		{at(0, 0, 2, 0, 0, 1), [][3]api.Point{tri(0, 0, 1, 0, 0, 1), tri(1, 0, 2, 0, 0, 1)}, true},
		{at(0, 0, 2, 0, 0, 1), [][3]api.Point{tri(0, 0, 1, 0, 0, 1), tri(0, 0, 1, 0, 0, 1)}, false},
		// The sides of a pen that turns to the right, and straight posts.
		{at(0, 1, 2, 0, 1, 0, 0, 0), [][3]api.Point{tri(1, 0, 2, 0, 0, 1), tri(0, 0, 0, 1, 1, 0)}, true},
		// The notch of the arrow is covered instead of a part of the pen.
		{at(0, 0, 2, 0, 1, 1, 0, 2), [][3]api.Point{tri(0, 0, 1, 0, 0, 1), tri(1, 0, 2, 0, 1, 1), tri(1, 0, 1, 1, 0, 1), tri(0, 1, 1, 1, 0, 2)}, true},
		{at(0, 0, 4, 0, 1, 1, 0, 4), [][3]api.Point{tri(0, 0, 1, 0, 0, 1), tri(1, 0, 2, 0, 1, 1), tri(1, 0, 1, 1, 0, 1), tri(0, 1, 1, 1, 0, 2), tri(2, 0, 3, 0, 1, 1), tri(3, 0, 4, 0, 1, 1), tri(0, 2, 1, 1, 0, 3), tri(0, 3, 1, 1, 0, 4)}, true},
		{at(0, 0, 4, 0, 1, 1, 0, 4), [][3]api.Point{tri(0, 0, 1, 0, 0, 1), tri(1, 0, 2, 0, 1, 1), tri(1, 0, 1, 1, 0, 1), tri(0, 1, 1, 1, 0, 2), tri(2, 0, 3, 0, 1, 1), tri(3, 0, 4, 0, 1, 1), tri(0, 2, 1, 1, 0, 3), tri(0, 3, 1, 1, 1, 2)}, false},
	} {
		if ok, e := pens.IsSplit(c.posts, c.list); ok != c.want || e != api.OK {
			t.Error(i, ok, e)
		}
	}
	far := at(49, 49, 50, 49, 49, 50)
	if ok, e := pens.IsSplit(far, [][3]api.Point{tri(49, 49, 50, 49, 49, 50)}); !ok || e != api.OK {
		t.Error(ok, e)
	}
	if ok, e := pens.IsSplit(far, [][3]api.Point{tri(51, 49, 50, 49, 51, 50)}); ok || e != api.OK {
		t.Error(ok, e)
	}
}

// TestP1_4Changed changes splits at random, and compares with what all pairs of triangles say.
func TestP1_4Changed(t *testing.T) {
	r := rand.New(rand.NewPCG(11, 12))
	good := 0
	for _, posts := range randomPens(250) {
		list, e := pens.Split(posts)
		if e != api.OK || len(list) > 40 {
			continue
		}
		for range 40 {
			changed := slices.Clone(list)
			r.Shuffle(len(changed), func(i, k int) { changed[i], changed[k] = changed[k], changed[i] })
			for range r.IntN(3) {
				change(r, changed)
			}
			want := slowIsSplit(posts, changed)
			if want {
				good++
			}
			if ok, e := pens.IsSplit(posts, changed); ok != want || e != api.OK {
				t.Fatal(posts, changed, ok, want, e)
			}
		}
	}
	if good < 100 {
		t.Error("too few splits", good)
	}
}

// change makes one triangle, or two of them, different.
func change(r *rand.Rand, list [][3]api.Point) {
	i, k := r.IntN(len(list)), r.IntN(3)
	switch r.IntN(4) {
	case 0: // other corners first
		list[i][k], list[i][(k+1)%3] = list[i][(k+1)%3], list[i][k]
	case 1: // a corner turned over to the other side
		s := list[i]
		list[i][k] = api.Point{X: s[(k+1)%3].X + s[(k+2)%3].X - s[k].X, Y: s[(k+1)%3].Y + s[(k+2)%3].Y - s[k].Y}
	case 2: // moved
		for j := range 3 {
			list[i][j].X++
		}
	default: // the other line through two triangles that make a parallelogram
		s := list[i]
		p := api.Point{X: s[(k+1)%3].X + s[(k+2)%3].X - s[k].X, Y: s[(k+1)%3].Y + s[(k+2)%3].Y - s[k].Y}
		for j, u := range list {
			if slices.Contains(u[:], p) && slices.Contains(u[:], s[(k+1)%3]) && slices.Contains(u[:], s[(k+2)%3]) {
				list[i] = [3]api.Point{s[k], p, s[(k+1)%3]}
				list[j] = [3]api.Point{s[k], p, s[(k+2)%3]}
			}
		}
	}
}

// TestP1_4Great is of the greatest pen: IsSplit has no limit of its own.
func TestP1_4Great(t *testing.T) {
	var list [][3]api.Point
	for x := -50; x < 50; x++ {
		for y := -50; y < 50; y++ {
			a, b, c, d := api.Point{X: x, Y: y}, api.Point{X: x + 1, Y: y}, api.Point{X: x + 1, Y: y + 1}, api.Point{X: x, Y: y + 1}
			list = append(list, [3]api.Point{a, b, c}, [3]api.Point{a, d, c})
		}
	}
	if ok, e := pens.IsSplit(huge, list); !ok || e != api.OK {
		t.Error(ok, e)
	}
	list[7000] = list[7001]
	if ok, e := pens.IsSplit(huge, list); ok || e != api.OK {
		t.Error(ok, e)
	}
}

func TestP1_5Opposite(t *testing.T) {
	for _, c := range []struct{ posts, want []api.Point }{
		{small, at(1, 1, -2, 1, 1, -2)},
		{at(-1, -1, 0, 1, 1, 0), at(-2, 1, 1, 1, 1, -2)},
		{at(1, 1, -2, 1, 1, -2), at(0, 1, -1, -1, 1, 0)},
		{at(1, 0, 0, 1, -1, 0, 0, -1), at(1, 1, -1, 1, -1, -1, 1, -1)},
	} {
		if l, e := pens.Opposite(c.posts); !slices.Equal(l, c.want) || e != api.OK {
			t.Error(c, l, e)
		}
	}
	for _, posts := range rounds(t) {
		l, e := pens.Opposite(posts)
		if len(l) != len(posts) || e != api.OK {
			t.Fatal(posts, l, e)
		}
		for i, u := range l {
			p, q := posts[i], posts[(i+1)%len(posts)]
			if u.X*p.X+u.Y*p.Y != 1 || u.X*q.X+u.Y*q.Y != 1 {
				t.Error(posts, i, u)
			}
		}
	}
}

func TestP1_5State(t *testing.T) {
	bent := at(0, -1, -1, 2, 0, 1, 1, 1)
	for _, c := range []struct {
		posts []api.Point
		ok    bool
	}{
		{square, false},
		{arrow, false},
		{at(-1, -1, 1, -1, 1, 1, -1, 1), true},
		{at(-1, -1, 0, -1, 1, -1, 1, 1, -1, 1), false}, // a straight post
		{at(-1, 1, 1, 1, 1, -1, 0, -1, -1, -1), false}, // the same, to the right
		{at(-1, 0, 1, 0, 1, 1), false},                 // on the border
		{at(0, 0, 1, 0, 0, 1), false},                  // a post
		{at(-1, -1, 2, -1, 2, 1, -1, 1), false},        // two points inside
		{at(0, -1, 3, -1, 0, 2), false},                // another point inside
		{at(1, 0, 0, 0, 0, -1), false},                 // none inside
		{at(-1, -1, 2, 0, 0, 0, 1, 2), false},          // not convex
		{bent, false},
		{at(1, 1, -1, 1, -1, -1, 1, -1), true},
	} {
		l, e := pens.Opposite(c.posts)
		if c.ok != (e == api.OK) || !c.ok && (e != api.ErrState || len(l) != 0) {
			t.Error(c, l, e)
		}
	}
	_, inside := slowCount(bent)
	if inside != 1 || slowConvex(bent) || straight(bent) || slowWhere(bent, slowBorder(bent), api.Point{}) != 1 {
		t.Error("the test is wrong about", bent, inside)
	}
	for _, posts := range randomPens(2000) {
		_, inside := slowCount(posts)
		want := slowConvex(posts) && !straight(posts) && inside == 1 && slowWhere(posts, slowBorder(posts), api.Point{}) == 1
		if _, e := pens.Opposite(posts); want != (e == api.OK) || !want && e != api.ErrState {
			t.Error(posts, e)
		}
	}
}

func TestP1_6Sheared(t *testing.T) {
	for _, c := range []struct {
		posts []api.Point
		by    [4]int
		want  []api.Point
	}{
		{square, [4]int{1, 1, 0, 1}, at(0, 0, 2, 0, 4, 2, 2, 2)},
		{square, [4]int{1, 0, 0, 1}, square},
		{square, [4]int{0, 1, 1, 0}, at(0, 0, 0, 2, 2, 2, 2, 0)},
		{nine, [4]int{2, 3, 1, 2}, at(0, 0, 6, 3, 9, 6)},
		{nine, [4]int{-1, 0, 0, 1}, at(0, 0, -3, 0, 0, 3)},
		{at(0, 0, 1, 0, 0, 1), [4]int{50, 49, -1, -1}, at(0, 0, 50, -1, 49, -1)},
		{at(0, 0, 1, 0, 0, 1), [4]int{1, 0, -50, 1}, at(0, 0, 1, -50, 0, 1)},
	} {
		if l, e := pens.Sheared(c.posts, c.by); !slices.Equal(l, c.want) || e != api.OK {
			t.Error(c, l, e)
		}
	}
	unit := at(0, 0, 1, 0, 0, 1)
	for _, c := range []struct {
		posts []api.Point
		by    [4]int
	}{
		{unit, [4]int{}}, {unit, [4]int{1, 0, 0, 2}}, {unit, [4]int{1, 1, 1, 1}}, {unit, [4]int{1, 0, 0, -2}},
		{at(0, 0, -1, 0, 0, 0), [4]int{1, 0, 0, 1}},
		{at(0, 0, 1, 0, 1, 1), [4]int{1, -51, 0, 1}}, {at(0, 0, 1, 0, 1, 1), [4]int{1, 0, 51, 1}}, {at(0, 0, 1, 0, 1, 1), [4]int{51, 50, 1, 1}}, {at(0, 0, 1, 0, 1, 1), [4]int{1, 1, -52, -51}},
		{at(0, 0, 0, 1, 1, 1), [4]int{1, 51, 0, 1}}, {square, [4]int{1, 40, 0, 1}}, {square, [4]int{1, 0, -26, 1}}, {huge, [4]int{1, 1, 0, 1}},
		// Products that would be 1 if numbers were cut to 64 bits.
		{unit, [4]int{math.MaxInt, 0, 0, math.MaxInt}}, {unit, [4]int{math.MinInt + 1, 0, 0, math.MaxInt}}, {unit, [4]int{1, math.MinInt, 2, 1}},
		{unit, [4]int{1 << 32, 1, -1, 1 << 32}},
	} {
		if l, e := pens.Sheared(c.posts, c.by); len(l) != 0 || e != api.ErrArg {
			t.Error(c, l, e)
		}
	}
}
