package ambush_test

import (
	"cmp"
	"math"
	"math/rand/v2"
	"slices"
	"strings"

	"droveway/api"
)

// This file has the tests' own ways to tell what the package tells: slow ones, close to the chapter's words.

// field is a number of spots and a list of lines, which may be a field.
type field struct {
	m     int
	lines []int
}

// Fields that many tests use.
var (
	noLines  = field{1, nil}
	two      = field{2, []int{3}}
	triangle = field{3, []int{3, 5, 6}}
	repeated = field{4, []int{12, 3, 12, 15, 3}}
	fano     = field{7, []int{7, 25, 97, 42, 82, 76, 52}}
	square   = field{9, []int{7, 56, 448, 73, 146, 292, 273, 84}}
	paired   = field{9, []int{3, 12, 48, 192, 7, 448, 511}}
	crossed  = field{9, []int{387, 45, 120, 212, 263, 480, 90, 330, 165, 27, 300, 504}}
	dense    = field{9, []int{1, 2, 4, 8, 16, 32, 64, 128, 256, 3, 5, 511}}
	long     = field{9, slices.Repeat([]int{511}, 12)}
	bare     = field{9, nil}
)

// namedFields are those that have a name.
func namedFields() []field {
	return []field{noLines, two, triangle, repeated, fano, square, paired, crossed, dense, long, bare}
}

// notFields are fields with an error, each with the one that is returned.
var notFields = []struct {
	field
	err api.Errno
}{
	{field{0, nil}, api.ErrArg}, {field{-1, nil}, api.ErrArg}, {field{10, nil}, api.ErrArg}, {field{math.MinInt, nil}, api.ErrArg}, {field{math.MaxInt, nil}, api.ErrArg},
	{field{0, []int{1}}, api.ErrArg}, {field{10, []int{1}}, api.ErrArg}, {field{10, []int{1023}}, api.ErrArg}, {field{63, []int{1}}, api.ErrArg}, {field{64, []int{1}}, api.ErrArg},
	{field{1<<32 + 3, []int{3}}, api.ErrArg}, {field{0, make([]int, 13)}, api.ErrArg}, {field{10, slices.Repeat([]int{1}, 13)}, api.ErrArg},
	{field{3, slices.Repeat([]int{1}, 13)}, api.ErrLimit}, {field{3, make([]int, 13)}, api.ErrLimit}, {field{9, slices.Repeat([]int{512}, 13)}, api.ErrLimit}, {field{1, slices.Repeat([]int{1}, 1000)}, api.ErrLimit},
	{field{3, []int{0}}, api.ErrArg}, {field{3, []int{8}}, api.ErrArg}, {field{3, []int{-1}}, api.ErrArg}, {field{3, []int{1, 2, 0}}, api.ErrArg}, {field{3, []int{8, 1}}, api.ErrArg},
	{field{1, []int{2}}, api.ErrArg}, {field{1, []int{1, 2}}, api.ErrArg}, {field{9, []int{512}}, api.ErrArg}, {field{9, append(slices.Repeat([]int{511}, 11), 512)}, api.ErrArg},
	{field{9, []int{math.MaxInt}}, api.ErrArg}, {field{9, []int{math.MinInt}}, api.ErrArg}, {field{9, []int{1<<32 + 1}}, api.ErrArg}, {field{3, make([]int, 12)}, api.ErrArg},
}

// notPositions are no positions of three spots.
var notPositions = []string{
	"", ".", "..", "....", "wd", "wdwd", strings.Repeat(".", 64), strings.Repeat("w", 512), "..W", "D..", "..x", "x..", ".x.", ". .", "...\n", "..\x00", "..0", "..,", "w-d", "012",
	"é.", ".é", "w\xff.", "\xff\xfe\xfd", "ab\xff", "。", "ｗ", "ẃ", "ｗｄｗ", "ééé", "..ｗ", "\xef\xbf\xbd", "�.w", "ww…",
}

// notNext are no letters of a side.
var notNext = []string{"", ".", "W", "D", "wd", "dw", "ww", " w", "w ", "x", "é", "\xff", "\x00", "0", "1", "wolves", "ｗ"}

// isIn reports whether a spot is in a set.
func isIn(spot, set int) bool { return set/(1<<spot)%2 == 1 }

// positions returns all positions of m spots.
func positions(m int) []string {
	out := []string{""}
	for range m {
		var longer []string
		for _, p := range out {
			longer = append(longer, p+".", p+"w", p+"d")
		}
		out = longer
	}
	return out
}

// empty returns the position of m free spots.
func empty(m int) string { return strings.Repeat(".", m) }

// put returns the position with a letter at the spot.
func put(position string, spot int, letter string) string {
	return position[:spot] + letter + position[spot+1:]
}

// other returns the letter of the other side.
func other(next string) string {
	if next == "w" {
		return "d"
	}
	return "w"
}

// slowFieldError goes by the words of the chapter.
func slowFieldError(f field) api.Errno {
	if f.m < 1 || f.m > 9 {
		return api.ErrArg
	}
	if len(f.lines) > 12 {
		return api.ErrLimit
	}
	for _, line := range f.lines {
		if line < 1 || line > 1<<f.m-1 {
			return api.ErrArg
		}
	}
	return api.OK
}

// slowIsPosition takes away all letters that a position may have.
func slowIsPosition(m int, text string) bool {
	return len(text) == m && strings.Trim(text, "wd.") == "" && strings.Count(text, "w")+strings.Count(text, "d")+strings.Count(text, ".") == m
}

// spotsOf lists the spots of a line.
func spotsOf(f field, line int) []int {
	var out []int
	for spot := range f.m {
		if isIn(spot, line) {
			out = append(out, spot)
		}
	}
	return out
}

// lettersOf counts a letter on a line.
func lettersOf(f field, line int, position string, letter byte) int {
	count := 0
	for _, spot := range spotsOf(f, line) {
		if position[spot] == letter {
			count++
		}
	}
	return count
}

// slowWon reports whether the wolves have all spots of a line.
func slowWon(f field, position string) bool {
	for _, line := range f.lines {
		if lettersOf(f, line, position, 'w') == len(spotsOf(f, line)) {
			return true
		}
	}
	return false
}

// slowWinners tells who wins each position, by the letter of the next one and the position behind it.
func slowWinners(f field) map[string]string {
	out := map[string]string{}
	var look func(position, next string) string
	look = func(position, next string) string {
		if who, ok := out[next+position]; ok {
			return who
		}
		who := other(next)
		switch {
		case slowWon(f, position):
			who = "w"
		case !strings.Contains(position, "."):
			who = "d"
		default:
			for spot := range position {
				if position[spot] == '.' && look(put(position, spot, next), other(next)) == next {
					who = next
				}
			}
		}
		out[next+position] = who
		return who
	}
	for _, position := range positions(f.m) {
		look(position, "w")
		look(position, "d")
	}
	return out
}

// slowMove looks for the least free spot by which next wins, and then for the least free one; it is -1 if there is none.
func slowMove(f field, winners map[string]string, position, next string) int {
	if slowWon(f, position) {
		return -1
	}
	for spot := range position {
		if position[spot] == '.' && winners[other(next)+put(position, spot, next)] == next {
			return spot
		}
	}
	return strings.Index(position, ".")
}

// slowDanger adds up the lines.
func slowDanger(f field, position string) int {
	sum := 0
	for _, line := range f.lines {
		if lettersOf(f, line, position, 'd') > 0 {
			continue
		}
		part := 1
		for range f.m - lettersOf(f, line, position, '.') {
			part *= 2
		}
		sum += part
	}
	return sum
}

// slowCareful tries all free spots; it is -1 if there is none.
func slowCareful(f field, position string) int {
	best, most := -1, -1
	for spot := range position {
		if position[spot] != '.' {
			continue
		}
		if falls := slowDanger(f, position) - slowDanger(f, put(position, spot, "d")); falls > most {
			best, most = spot, falls
		}
	}
	return best
}

// comparePairs is by the first number, and then by the second one.
func comparePairs(p, q api.Pair) int { return cmp.Or(p.A-q.A, p.B-q.B) }

// slowIsPairing goes by the words of the chapter.
func slowIsPairing(f field, pairs []api.Pair) bool {
	for i, p := range pairs {
		if p.A < 0 || p.A >= f.m || p.B < 0 || p.B >= f.m || p.A >= p.B {
			return false
		}
		for _, q := range pairs[:i] {
			if comparePairs(q, p) >= 0 || q.A == p.A || q.A == p.B || q.B == p.A || q.B == p.B {
				return false
			}
		}
	}
	for _, line := range f.lines {
		has := false
		for _, p := range pairs {
			has = has || isIn(p.A, line) && isIn(p.B, line)
		}
		if !has {
			return false
		}
	}
	return true
}

// pairLists returns all ascending lists of pairs of m spots, no spot being in two of them: the short ones first, and those of
// one length in lexicographic order.
func pairLists(m int) [][]api.Pair {
	var out [][]api.Pair
	var look func(pairs []api.Pair, spots []int)
	look = func(pairs []api.Pair, spots []int) {
		if len(spots) == 0 {
			out = append(out, slices.Clone(pairs))
			return
		}
		look(pairs, spots[1:])
		for i, b := range spots {
			if i > 0 {
				look(append(slices.Clone(pairs), api.Pair{A: spots[0], B: b}), slices.Concat(spots[1:i], spots[i+1:]))
			}
		}
	}
	var all []int
	for spot := range m {
		all = append(all, spot)
	}
	look(nil, all)
	slices.SortFunc(out, func(a, b []api.Pair) int { return cmp.Or(len(a)-len(b), slices.CompareFunc(a, b, comparePairs)) })
	return out
}

// slowPairing takes the first of the lists that is a pairing; it is false if there is none.
func slowPairing(f field, lists [][]api.Pair) ([]api.Pair, bool) {
	for _, pairs := range lists {
		if slowIsPairing(f, pairs) {
			return pairs, true
		}
	}
	return nil, false
}

// slowAnswer looks at all pairs.
func slowAnswer(pairs []api.Pair, spot int) int {
	for _, p := range pairs {
		if p.A == spot {
			return p.B
		}
		if p.B == spot {
			return p.A
		}
	}
	return -1
}

// slowGuards tries all spots.
func slowGuards(f field, winners map[string]string) []int {
	var out []int
	for spot := range f.m {
		if winners["w"+put(empty(f.m), spot, "d")] == "d" {
			out = append(out, spot)
		}
	}
	return out
}

// slowNeeds looks at all positions without a spot of the dogs; it is -1 if the wolves win none of them.
func slowNeeds(f field, winners map[string]string) int {
	least := -1
	for _, position := range positions(f.m) {
		count := strings.Count(position, "w")
		if !strings.Contains(position, "d") && winners["d"+position] == "w" && (least < 0 || count < least) {
			least = count
		}
	}
	return least
}

// slowLeast goes by the words of the chapter.
func slowLeast(f field) []int {
	var out []int
	for line := range 1 << f.m {
		least := slices.Contains(f.lines, line)
		for _, o := range f.lines {
			if o != line && line|o == line {
				least = false
			}
		}
		if least {
			out = append(out, line)
		}
	}
	return out
}

// smallFields returns all fields of up to three spots that have no line twice, with their lines ascending.
func smallFields() []field {
	var out []field
	for m := 1; m <= 3; m++ {
		for set := range 1 << (1<<m - 1) {
			f := field{m: m}
			for line := 1; line < 1<<m; line++ {
				if isIn(line-1, set) {
					f.lines = append(f.lines, line)
				}
			}
			out = append(out, f)
		}
	}
	return out
}

// randomFields returns fields of up to so many spots, with short and with long lines in any order, some of them twice.
func randomFields(count, most int) []field {
	r := rand.New(rand.NewPCG(11, 12))
	var out []field
	for range count {
		f := field{m: 1 + r.IntN(most)}
		size := 1 + r.IntN(f.m)
		for range r.IntN(13) {
			line := 0
			for range size {
				line |= 1 << r.IntN(f.m)
			}
			f.lines = append(f.lines, line)
		}
		out = append(out, f)
	}
	return out
}

// manyFields returns all small fields, those that have a name, and as many random ones of up to so many spots.
func manyFields(random, most int) []field {
	return slices.Concat(namedFields(), smallFields(), randomFields(random, most))
}
