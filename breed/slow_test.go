package breed_test

import (
	"cmp"
	"math"
	"math/bits"
	"math/rand/v2"
	"slices"
	"strconv"
	"strings"
	"testing"

	"droveway/api"
)

// This file has the tests' own ways to tell what the package tells: slow ones, close to the chapter's words.

// Trees that many tests use.
const (
	chain   = "(((((((0,1),2),3),4),5),6),7)"
	star    = "(0,1,2,3,4,5,6,7)"
	even    = "(((0,4),(1,5)),((2,6),(3,7)))"
	mixed   = "((0,(3,5,7)),1,((2,6),4))"
	outside = "(0,(1,(2,(3,(4,(5,(6,7)))))))"
)

// eights are trees of eight beasts.
var eights = []string{chain, star, even, mixed, outside, "((0,1,2,3),(4,5,6,7))", "((0,7),(1,6),(2,5),(3,4))", "((((0,7),6),1),(2,3),(4,5))", "(0,(1,7),(2,3,(4,5,6)))"}

// notThrees are no trees of three beasts.
var notThrees = []string{
	"", "0", "1", "2", "3", "(", ")", ",", "()", "(0)", "(0,1)", "(1,2)", "(0,2)", "((0,1))", "(0,1,2", "0,1,2", "0,1,2)", "012", "(012)", "(0,1,2))", "((0,1,2)", "((0,1,2))", "(0,1,2),", "(0,1,2)(", "(0,1,2)0", "(0,1,2)(0,1,2)",
	"(0,2,1)", "(1,0,2)", "(2,1,0)", "(1,2,0)", "((1,0),2)", "((2,0),1)", "(0,(2,1))", "(2,(0,1))", "(1,(0,2))", "((1,2),0)", "((0,1),(2))", "(0,(1),2)", "((0),1,2)", "(((0,1)),2)", "(((0,1),2))", "(0,((1,2)))",
	"(0,1,1)", "(0,0,1,2)", "(0,1,2,2)", "(0,1,3)", "(1,2,3)", "(0,1,2,3)", "((0,1),(0,2))", "((0,1),(1,2))", "((0,1),(0,1),2)", "((0,2),(1,2))", "((0,1),0)", "((0,1),1)", "(0,(0,1,2))", "((0,1,2),(0,1,2))", "(0,(0,(0,(0,0))))",
	"(0,,1,2)", "(,0,1,2)", "(0,1,2,)", "(0,1,(2)", "(0,1),2)", "(0,1)2", "(0(1,2))", "(0,1(2))", "((0,1)2)", "((0,1),2", "(0,1,2()", "(0,1,())", "(0,())", "((),0,1,2)", "(0,1)(2)", "(0,1),(2)", ")0,1,2(", "((0,1)),2)", "(0))1,2)",
	"(0 ,1,2)", "(0, 1,2)", " (0,1,2)", "(0,1,2) ", "(0,1,2)\n", "(0;1;2)", "[0,1,2]", "{0,1,2}", "(00,1,2)", "(0,1,02)", "(0,1,+2)", "(-0,1,2)", "(0,1,٢)", "(0,1,２)", "（0,1,2）", "(0,1,2\x00)", "\x00", "(0,1,\xff)", "\xff", "é", "(0,1,a)", "(a,b,c)", "(0,1,8)", "(0,1,9)", "(0,1,/)", "(0,1,:)", "(0,1,r)",
}

// listOf returns the beasts of a set.
func listOf(set int) []int {
	var out []int
	for b := range 8 {
		if isIn(b, set) {
			out = append(out, b)
		}
	}
	return out
}

func isIn(b, set int) bool { return set/(1<<b)%2 == 1 }

// isWithin reports whether all beasts of one set are in another one.
func isWithin(inner, outer int) bool { return inner|outer == outer }

func sizeOf(set int) int { return bits.OnesCount(uint(set)) }

// treesOf returns all trees of the beasts of a set.
func treesOf(set int, known map[int][]string) []string {
	if trees, ok := known[set]; ok {
		return trees
	}
	var out []string
	if sizeOf(set) == 1 {
		out = append(out, strconv.Itoa(listOf(set)[0]))
	} else {
		for _, trees := range rowsOf(set, set-1, known) {
			out = append(out, "("+trees+")")
		}
	}
	known[set] = out
	return out
}

// rowsOf returns all rows of trees with commas between that have all beasts of a set, the first tree having at most so great
// a set.
func rowsOf(set, most int, known map[int][]string) []string {
	if set == 0 {
		return []string{""}
	}
	var out []string
	for first := 1; first <= min(set, most); first++ {
		if !isWithin(first, set) || listOf(first)[0] != listOf(set)[0] {
			continue
		}
		for _, tree := range treesOf(first, known) {
			for _, row := range rowsOf(set-first, set-first, known) {
				if row == "" {
					out = append(out, tree)
				} else {
					out = append(out, tree+","+row)
				}
			}
		}
	}
	return out
}

// allTrees returns all trees of n beasts.
func allTrees(n int) []string { return treesOf(1<<n-1, map[int][]string{}) }

// partsOf returns the sets of the beasts of all parts of a text, beasts and what is between two brackets.
func partsOf(text string) []int {
	var out, open []int
	for _, letter := range text {
		switch {
		case letter == '(':
			open = append(open, 0)
		case letter == ')' && len(open) > 0:
			out = append(out, open[len(open)-1])
			open = open[:len(open)-1]
		case letter >= '0' && letter <= '7':
			out = append(out, 1<<(letter-'0'))
			for i := range open {
				open[i] |= 1 << (letter - '0')
			}
		}
	}
	return out
}

// written returns the tree of a set that has the parts.
func written(set int, parts []int) string {
	if sizeOf(set) == 1 {
		return strconv.Itoa(listOf(set)[0])
	}
	var row []string
	for _, b := range listOf(set) {
		// The greatest part with the beast that is not all of the set is one of the trees, if it begins with the beast.
		great := 0
		for _, part := range parts {
			if part != set && isWithin(part, set) && isIn(b, part) && sizeOf(part) > sizeOf(great) {
				great = part
			}
		}
		if great > 0 && listOf(great)[0] == b {
			row = append(row, written(great, parts))
		}
	}
	return "(" + strings.Join(row, ",") + ")"
}

// slowIsTree writes what it finds once more.
func slowIsTree(n int, text string) bool {
	if n < 1 || n > 8 {
		return false
	}
	for b := range n {
		if strings.Count(text, strconv.Itoa(b)) != 1 {
			return false
		}
	}
	return written(1<<n-1, partsOf(text)) == text
}

// slowFamily takes the part with both beasts that has the fewest.
func slowFamily(tree string, a, b int) int {
	family := 0
	for _, part := range partsOf(tree) {
		if isIn(a, part) && isIn(b, part) && (family == 0 || sizeOf(part) < sizeOf(family)) {
			family = part
		}
	}
	return family
}

// slowShows is of one triple.
func slowShows(tree string, t api.Triple) bool { return !isIn(t.C, slowFamily(tree, t.A, t.B)) }

func slowShowsAll(tree string, triples []api.Triple) bool {
	for _, t := range triples {
		if !slowShows(tree, t) {
			return false
		}
	}
	return true
}

// allTriples returns all triples of n beasts, in order.
func allTriples(n int) []api.Triple {
	var out []api.Triple
	for a := range n {
		for b := a + 1; b < n; b++ {
			for c := range n {
				if c != a && c != b {
					out = append(out, api.Triple{A: a, B: b, C: c})
				}
			}
		}
	}
	return out
}

func slowTriples(n int, tree string) []api.Triple {
	var out []api.Triple
	for _, t := range allTriples(n) {
		if slowShows(tree, t) {
			out = append(out, t)
		}
	}
	return out
}

// slowJoined finds out of any two beasts of the set whether they can be reached from each other.
func slowJoined(triples []api.Triple, set int) []int {
	var reach [8][8]bool
	for _, b := range listOf(set) {
		reach[b][b] = true
	}
	for _, t := range triples {
		if isIn(t.A, set) && isIn(t.B, set) && isIn(t.C, set) {
			reach[t.A][t.B], reach[t.B][t.A] = true, true
		}
	}
	for c := range 8 {
		for a := range 8 {
			for b := range 8 {
				reach[a][b] = reach[a][b] || reach[a][c] && reach[c][b]
			}
		}
	}
	var out []int
	for _, a := range listOf(set) {
		part := 0
		for b := range 8 {
			if reach[a][b] {
				part += 1 << b
			}
		}
		if !slices.Contains(out, part) {
			out = append(out, part)
		}
	}
	slices.Sort(out)
	return out
}

// slowBuild is false if at some place there is no tree.
func slowBuild(triples []api.Triple, set int) (string, bool) {
	if sizeOf(set) == 1 {
		return strconv.Itoa(listOf(set)[0]), true
	}
	parts := slowJoined(triples, set)
	if len(parts) == 1 {
		return "", false
	}
	slices.SortFunc(parts, func(a, b int) int { return listOf(a)[0] - listOf(b)[0] })
	var row []string
	for _, part := range parts {
		tree, ok := slowBuild(triples, part)
		if !ok {
			return "", false
		}
		row = append(row, tree)
	}
	return "(" + strings.Join(row, ",") + ")", true
}

// slowKnot is 0 if there is none.
func slowKnot(n int, triples []api.Triple) int {
	for set := range 1 << n {
		if sizeOf(set) >= 3 && len(slowJoined(triples, set)) == 1 {
			return set
		}
	}
	return 0
}

// slowClosure takes what all of the trees show that show the triples; it is false if none of them does.
func slowClosure(n int, triples []api.Triple, trees []string) ([]api.Triple, bool) {
	left, found := allTriples(n), false
	for _, tree := range trees {
		if slowShowsAll(tree, triples) {
			found = true
			left = slices.DeleteFunc(left, func(t api.Triple) bool { return !slowShows(tree, t) })
		}
	}
	if !found {
		return nil, false
	}
	return left, true
}

// slowKept writes what the set has of all parts.
func slowKept(tree string, set int) string {
	var parts []int
	for _, part := range partsOf(tree) {
		parts = append(parts, part&set)
	}
	return written(set, parts)
}

// slowAgree holds all families against each other.
func slowAgree(n int, a, b string) int {
	var one, other [8][8]int
	for x := range n {
		for y := range n {
			one[x][y], other[x][y] = slowFamily(a, x, y), slowFamily(b, x, y)
		}
	}
	best := 0
	for set := 1; set < 1<<n; set++ {
		same := true
		for _, x := range listOf(set) {
			for _, y := range listOf(set) {
				same = same && one[x][y]&set == other[x][y]&set
			}
		}
		if same && sizeOf(set) > sizeOf(best) {
			best = set
		}
	}
	return best
}

// slowTriplesError goes by the words of the chapter.
func slowTriplesError(n int, triples []api.Triple) api.Errno {
	if len(triples) > 60 {
		return api.ErrLimit
	}
	for _, t := range triples {
		if !slices.Contains(allTriples(n), t) {
			return api.ErrArg
		}
	}
	return api.OK
}

// compareTriples is by A, then B, then C.
func compareTriples(s, t api.Triple) int { return cmp.Or(s.A-t.A, s.B-t.B, s.C-t.C) }

// otherTriples returns the other triples of the same beasts.
func otherTriples(t api.Triple) []api.Triple {
	return slices.DeleteFunc(allTriples(8), func(o api.Triple) bool {
		return o == t || 1<<o.A+1<<o.B+1<<o.C != 1<<t.A+1<<t.B+1<<t.C
	})
}

// randomTree returns any tree of the beasts of a set.
func randomTree(r *rand.Rand, set int) string {
	if sizeOf(set) == 1 {
		return strconv.Itoa(listOf(set)[0])
	}
	boxes := make([]int, 2+r.IntN(sizeOf(set)-1))
	for _, b := range listOf(set) {
		boxes[r.IntN(len(boxes))] |= 1 << b
	}
	boxes = slices.DeleteFunc(boxes, func(box int) bool { return box == 0 })
	if len(boxes) == 1 {
		return randomTree(r, set)
	}
	slices.SortFunc(boxes, func(a, b int) int { return listOf(a)[0] - listOf(b)[0] })
	var row []string
	for _, box := range boxes {
		row = append(row, randomTree(r, box))
	}
	return "(" + strings.Join(row, ",") + ")"
}

// randomTrees returns many trees of n beasts.
func randomTrees(count, n int) []string {
	r := rand.New(rand.NewPCG(17, uint64(n)))
	var out []string
	for range count {
		out = append(out, randomTree(r, 1<<n-1))
	}
	return out
}

// memory is a number of beasts and a list of triples.
type memory struct {
	n       int
	triples []api.Triple
}

// smallMemories returns all lists of triples of three and four beasts that are in order, and those of fewer beasts.
func smallMemories() []memory {
	out := []memory{{1, nil}, {2, nil}}
	for n := 3; n <= 4; n++ {
		all := allTriples(n)
		for set := range 1 << len(all) {
			m := memory{n: n}
			for i, t := range all {
				if isIn(i, set) {
					m.triples = append(m.triples, t)
				}
			}
			out = append(out, m)
		}
	}
	return out
}

// randomMemories returns lists for up to so many beasts, in any order, with some triples twice: some of what a tree shows,
// some with a few others beside, some of any triples.
func randomMemories(count, most int) []memory {
	r := rand.New(rand.NewPCG(18, uint64(most)))
	var out []memory
	for i := range count {
		m := memory{n: 3 + r.IntN(most-2)}
		from := slowTriples(m.n, randomTree(r, 1<<m.n-1))
		any := allTriples(m.n)
		size := r.IntN(1 + []int{4, 2 * m.n, 60}[r.IntN(3)])
		for range size {
			if i%3 == 2 || i%3 == 1 && r.IntN(size) < 2 || len(from) == 0 {
				m.triples = append(m.triples, any[r.IntN(len(any))])
			} else {
				m.triples = append(m.triples, from[r.IntN(len(from))])
			}
		}
		out = append(out, m)
	}
	return out
}

// manyMemories returns all small lists, and as many random ones for up to so many beasts.
func manyMemories(random, most int) []memory {
	return slices.Concat(smallMemories(), randomMemories(random, most))
}

// wild are numbers that are in range, just out of it, and far away.
var wild = []int{math.MinInt, math.MinInt + 1, -1 << 62, -1 << 32, -64, -2, -1, 0, 1, 2, 3, 4, 5, 6, 7, 8, 9, 10, 15, 16, 63, 64, 255, 256, 1 << 32, 1<<32 + 1, 1 << 62, math.MaxInt - 1, math.MaxInt}

// TestSlow holds the slow ways against one another.
func TestSlow(t *testing.T) {
	for n, want := range []int{0, 1, 1, 4, 26, 236, 2752} {
		if n == 0 {
			continue
		}
		trees := allTrees(n)
		if len(trees) != want || len(slices.Compact(slices.Sorted(slices.Values(trees)))) != want {
			t.Error(n, len(trees))
		}
		for _, tree := range trees {
			if !slowIsTree(n, tree) || slowIsTree(n-1, tree) || slowIsTree(n+1, tree) {
				t.Error(n, tree)
			}
		}
		for _, tree := range randomTrees(100, n) {
			if !slices.Contains(trees, tree) {
				t.Error(n, tree)
			}
		}
	}
	for _, tree := range eights {
		if !slowIsTree(8, tree) {
			t.Error(tree)
		}
	}
	for _, text := range notThrees {
		if slowIsTree(3, text) {
			t.Errorf("%q", text)
		}
	}
	built := 0
	for _, m := range randomMemories(3000, 8) {
		if _, ok := slowBuild(m.triples, 1<<m.n-1); ok {
			built++
		}
	}
	if built < 700 || built > 2300 {
		t.Error("too few lists of a kind:", built)
	}
}
