package ambush

import (
	"math/bits"
	"slices"

	"droveway/api"
)

// side is one of those who take spots.
type side int

const (
	wolves side = iota
	dogs
)

// letters has the letter of each side.
const letters = "wd"

func (s side) letter() string { return letters[s : s+1] }

func (s side) other() side { return dogs - s }

// sideOf is false if the letter is not one of a side.
func sideOf(letter string) (side, bool) {
	for _, s := range []side{wolves, dogs} {
		if s.letter() == letter {
			return s, true
		}
	}
	return 0, false
}

// position is the set of spots that each side has taken; the other spots are free.
type position [2]int

// taken returns the position after a side takes a spot.
func (p position) taken(by side, spot int) position {
	p[by] |= 1 << spot
	return p
}

// turn is a position, and who takes the next spot.
type turn struct {
	position
	next side
}

// after returns the turn that comes when the next one takes a spot.
func (t turn) after(spot int) turn {
	return turn{t.taken(t.next, spot), t.next.other()}
}

// field is m spots, and the lines that the wolves want.
type field struct {
	m     int
	lines []int
}

func newField(m int, lines []int) (field, api.Errno) {
	if m < 1 || m > api.MaxSpots {
		return field{}, api.ErrArg
	}
	if len(lines) > api.MaxLines {
		return field{}, api.ErrLimit
	}
	f := field{m, lines}
	for _, line := range lines {
		if line < 1 || line > f.all() {
			return field{}, api.ErrArg
		}
	}
	return f, api.OK
}

// fieldAt returns the field and the position that is written as text.
func fieldAt(m int, lines []int, text string) (field, position, api.Errno) {
	f, err := newField(m, lines)
	if err != api.OK {
		return field{}, position{}, err
	}
	if len(text) != m || !isWritten(text) {
		return field{}, position{}, api.ErrForm
	}
	return f, read(text), api.OK
}

// fieldOnTurn returns the field, and the turn of the side that has the letter next.
func fieldOnTurn(m int, lines []int, text, next string) (field, turn, api.Errno) {
	f, p, err := fieldAt(m, lines, text)
	if err != api.OK {
		return field{}, turn{}, err
	}
	s, ok := sideOf(next)
	if !ok {
		return field{}, turn{}, api.ErrForm
	}
	return f, turn{p, s}, api.OK
}

// isWritten reports whether the text has no letters but those of a position.
func isWritten(text string) bool {
	for _, letter := range text {
		switch letter {
		case 'w', 'd', '.':
		default:
			return false
		}
	}
	return true
}

// read returns the position of a text of which each letter is one byte.
func read(text string) position {
	p := position{}
	for spot := range len(text) {
		switch text[spot] {
		case 'w':
			p = p.taken(wolves, spot)
		case 'd':
			p = p.taken(dogs, spot)
		}
	}
	return p
}

// all is the set of all spots.
func (f field) all() int { return 1<<f.m - 1 }

func (f field) knows(spot int) bool { return spot >= 0 && spot < f.m }

// free is the set of the free spots.
func (f field) free(p position) int { return f.all() &^ (p[wolves] | p[dogs]) }

// freeSpots lists the free spots, ascending.
func (f field) freeSpots(p position) []int {
	var spots []int
	for free := f.free(p); free != 0; free &= free - 1 {
		spots = append(spots, bits.TrailingZeros(uint(free)))
	}
	return spots
}

// won reports whether the wolves have all spots of some line.
func (f field) won(p position) bool { return containsOne(p[wolves], f.lines) }

// containsOne reports whether a set contains one of the others.
func containsOne(set int, others []int) bool {
	return slices.ContainsFunc(others, func(o int) bool { return set&o == o })
}

// danger sums the lines without a spot of the dogs, each free spot of a line halving what the line counts.
func (f field) danger(p position) int {
	sum := 0
	for _, line := range f.lines {
		if line&p[dogs] == 0 {
			sum += 1 << (f.m - bits.OnesCount(uint(line&f.free(p))))
		}
	}
	return sum
}

// careful returns which of the spots leaves the least danger if the dogs take it, of several the first.
func (f field) careful(p position, spots []int) int {
	return slices.MinFunc(spots, func(a, b int) int {
		return f.danger(p.taken(dogs, a)) - f.danger(p.taken(dogs, b))
	})
}

// least returns the lines that contain no other line, ascending, each once.
func (f field) least() []int {
	var least []int
	for _, line := range slices.Sorted(slices.Values(f.lines)) {
		// A line that is contained in another one is the smaller number of both.
		if !containsOne(line, least) {
			least = append(least, line)
		}
	}
	return least
}
