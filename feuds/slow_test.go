package feuds_test

import (
	"math"
	"math/rand/v2"
	"slices"

	"droveway/api"
)

// This file has the tests' own ways to tell what the package tells: slow ones, close to the chapter's words.

// wild are numbers that are out of every range, or at its ends.
var wild = []int{-1, -2, -3, -8, -9, 8, 9, 10, 11, 20, 21, 31, 32, 63, 64, 65, 255, 256, 257, 1 << 16, 1 << 31, 1<<31 - 1, -1 << 31, 1 << 32, 1<<32 + 1, 1<<32 + 2, 1 << 62, 1<<62 + 1, -1 << 62, math.MaxInt, math.MaxInt - 1, math.MinInt, math.MinInt + 1}

// drove is drovers and their ties, as all functions are given them.
type drove struct {
	n    int
	ties []api.Tie
}

// pairs returns all two drovers, the lesser one first.
func pairs(n int) [][2]int {
	var list [][2]int
	for a := range n {
		for b := a + 1; b < n; b++ {
			list = append(list, [2]int{a, b})
		}
	}
	return list
}

// complete returns ties of all two drovers, all feuds or all friendships.
func complete(n int, feud bool) []api.Tie {
	var ties []api.Tie
	for _, p := range pairs(n) {
		ties = append(ties, api.Tie{A: p[0], B: p[1], Feud: feud})
	}
	return ties
}

// around returns a single ring of ties that goes around all drovers, the first few of which are feuds.
func around(n, feuds int) []api.Tie {
	var ties []api.Tie
	for a := range n {
		b := (a + 1) % n
		ties = append(ties, api.Tie{A: min(a, b), B: max(a, b), Feud: a < feuds})
	}
	return ties
}

// smallDroves returns all droves of up to four drovers, the ties in one order.
func smallDroves() []drove {
	var list []drove
	for n := 1; n <= 4; n++ {
		some := []drove{{n: n}}
		for _, p := range pairs(n) {
			for _, d := range some {
				for _, feud := range []bool{false, true} {
					some = append(some, drove{n, append(slices.Clone(d.ties), api.Tie{A: p[0], B: p[1], Feud: feud})})
				}
			}
		}
		list = append(list, some...)
	}
	return list
}

// randomDroves returns so many droves of up to eight drovers, with up to so many ties in any order. Of some of them nearly all
// ties are friendships, or feuds; some are calm, or nearly so.
func randomDroves(seed uint64, count, mostTies int) []drove {
	r := rand.New(rand.NewPCG(seed, 91))
	var list []drove
	for range count {
		d := drove{n: 1 + r.IntN(8)}
		all := pairs(d.n)
		r.Shuffle(len(all), func(i, j int) { all[i], all[j] = all[j], all[i] })
		feuds, set, wrong := r.IntN(11), r.IntN(1<<d.n), r.IntN(3)
		for _, p := range all[:r.IntN(min(len(all), mostTies)+1)] {
			tie := api.Tie{A: p[0], B: p[1], Feud: r.IntN(10) < feuds}
			if feuds%2 == 0 {
				tie.Feud = asSetAsks(tie, set) != (r.IntN(12) < wrong)
			}
			d.ties = append(d.ties, tie)
		}
		list = append(list, d)
	}
	return list
}

// largeDroves returns droves with as many ties as there may be, or drovers, or both.
func largeDroves() []drove {
	all := complete(8, true)
	mixed := slices.Clone(all)
	for i := range mixed {
		mixed[i].Feud = i%3 == 0
	}
	return []drove{
		{8, nil}, {8, all[:20]}, {8, all[8:]}, {8, complete(8, false)[8:]}, {8, complete(8, false)[:20]}, {8, mixed[:20]}, {8, mixed[8:]}, {7, complete(7, true)[:20]}, {7, complete(7, true)[1:]}, {7, complete(7, false)[1:]}, {6, complete(6, true)}, {6, complete(6, false)},
		{8, complete(6, true)}, {8, around(8, 1)}, {8, around(8, 7)}, {8, around(8, 8)}, {8, around(8, 0)}, {8, around(7, 7)}, {7, around(7, 7)}, {7, around(7, 1)}, {5, complete(5, true)}, {5, complete(5, false)}, {8, slices.Concat(around(8, 3), []api.Tie{{A: 0, B: 4}, {A: 1, B: 5, Feud: true}})},
	}
}

// allDroves returns the droves that most tests look at.
func allDroves() []drove {
	return slices.Concat(smallDroves(), randomDroves(1, 1500, 20), largeDroves())
}

// slowTiesError goes by the words of the chapter.
func slowTiesError(n int, ties []api.Tie) api.Errno {
	if n < 1 || n > 8 {
		return api.ErrArg
	}
	if len(ties) > 20 {
		return api.ErrLimit
	}
	seen := map[[2]int]bool{}
	for _, t := range ties {
		two := [2]int{t.A, t.B}
		if !slices.Contains(pairs(n), two) || seen[two] {
			return api.ErrArg
		}
		seen[two] = true
	}
	return api.OK
}

// has goes by the definition of a set: the sum of 2^drover.
func has(set, drover int) bool {
	for range drover {
		set /= 2
	}
	return set%2 == 1
}

// asSetAsks tells whether a tie is a feud if it is as calm with the set asks.
func asSetAsks(t api.Tie, set int) bool { return has(set, t.A) != has(set, t.B) }

func slowWrong(ties []api.Tie, set int) []int {
	var wrong []int
	for i, t := range ties {
		if t.Feud != asSetAsks(t, set) {
			wrong = append(wrong, i)
		}
	}
	return wrong
}

// slowSides returns all sets with which the ties are calm, ascending.
func slowSides(d drove) []int {
	var sets []int
	for set := range 1 << d.n {
		if len(slowWrong(d.ties, set)) == 0 {
			sets = append(sets, set)
		}
	}
	return sets
}

func slowSwitch(ties []api.Tie, set int) []api.Tie {
	var switched []api.Tie
	for _, t := range ties {
		inside := 0
		for _, drover := range []int{t.A, t.B} {
			if has(set, drover) {
				inside++
			}
		}
		if inside == 1 {
			t.Feud = !t.Feud
		}
		switched = append(switched, t)
	}
	return switched
}

// changed makes feuds of the ties of a list that are friendships, and the other way round.
func changed(ties []api.Tie, list []int) []api.Tie {
	other := slices.Clone(ties)
	for _, i := range list {
		other[i].Feud = !other[i].Feud
	}
	return other
}

// slowRing returns the number of feuds of a ring, and whether the list is one: it looks for the drovers that each tie has in
// common with the next one.
func slowRing(ties []api.Tie, list []int) (int, bool) {
	feuds := 0
	seen := map[int]bool{}
	for i, tie := range list {
		next := list[(i+1)%len(list)]
		if tie < 0 || tie >= len(ties) || next < 0 || next >= len(ties) {
			return 0, false
		}
		var common []int
		for drover := range 8 {
			of := func(t api.Tie) bool { return t.A == drover || t.B == drover }
			if of(ties[tie]) && of(ties[next]) {
				common = append(common, drover)
			}
		}
		if len(common) != 1 || seen[common[0]] {
			return 0, false
		}
		seen[common[0]] = true
		if ties[tie].Feud {
			feuds++
		}
	}
	if len(list) < 3 {
		return 0, false
	}
	return feuds, true
}

// slowRings returns all lists of ties that are rings, each ring in both directions and from each of its ties on: it goes from
// drover to drover.
func slowRings(d drove) [][]int {
	tieOf := map[[2]int]int{}
	for i, t := range d.ties {
		tieOf[[2]int{t.A, t.B}] = i
		tieOf[[2]int{t.B, t.A}] = i
	}
	var rings [][]int
	var from func(drovers, ties []int)
	from = func(drovers, ties []int) {
		last := drovers[len(drovers)-1]
		if back, isTie := tieOf[[2]int{last, drovers[0]}]; isTie && len(drovers) >= 3 {
			rings = append(rings, append(slices.Clone(ties), back))
		}
		for to := range d.n {
			if tie, isTie := tieOf[[2]int{last, to}]; isTie && !slices.Contains(drovers, to) {
				from(append(slices.Clone(drovers), to), append(slices.Clone(ties), tie))
			}
		}
	}
	for drover := range d.n {
		from([]int{drover}, nil)
	}
	return rings
}

// slowShortest returns the ring with the fewest ties whose number of feuds is wanted, of several the least list, or nil.
func slowShortest(d drove, isWanted func(feuds int) bool) []int {
	var best []int
	for _, ring := range slowRings(d) {
		feuds, isRing := slowRing(d.ties, ring)
		if !isRing || !isWanted(feuds) {
			continue
		}
		if best == nil || len(ring) < len(best) || len(ring) == len(best) && slices.Compare(ring, best) < 0 {
			best = ring
		}
	}
	return best
}

func isOdd(feuds int) bool { return feuds%2 == 1 }

func isOne(feuds int) bool { return feuds == 1 }

// slowOddRings returns all odd rings, each as the least list of its ties, in order.
func slowOddRings(d drove) [][]int {
	least := map[string][]int{}
	for _, ring := range slowRings(d) {
		if feuds, _ := slowRing(d.ties, ring); !isOdd(feuds) {
			continue
		}
		name := ""
		for _, tie := range slices.Sorted(slices.Values(ring)) {
			name += string(rune('a' + tie))
		}
		if before, isKnown := least[name]; !isKnown || slices.Compare(ring, before) < 0 {
			least[name] = ring
		}
	}
	var rings [][]int
	for _, ring := range least {
		rings = append(rings, ring)
	}
	slices.SortFunc(rings, slices.Compare)
	return rings
}

// slowApart takes each ring or leaves it, and holds all that comes of it against each other.
func slowApart(d drove) [][]int {
	rings := slowOddRings(d)
	var best [][]int
	var from func(next int, taken [][]int)
	from = func(next int, taken [][]int) {
		if next == len(rings) {
			if len(taken) > len(best) || len(taken) == len(best) && compareLists(taken, best) < 0 {
				best = slices.Clone(taken)
			}
			return
		}
		from(next+1, taken)
		for _, ring := range taken {
			for _, tie := range ring {
				if slices.Contains(rings[next], tie) {
					return
				}
			}
		}
		from(next+1, append(slices.Clone(taken), rings[next]))
	}
	from(0, nil)
	return best
}

func compareLists(a, b [][]int) int { return slices.CompareFunc(a, b, slices.Compare) }

// allLists returns all lists of so many numbers from least to most, in lexicographic order.
func allLists(length, least, most int) [][]int {
	lists := [][]int{{}}
	for range length {
		var longer [][]int
		for _, list := range lists {
			for x := least; x <= most; x++ {
				longer = append(longer, append(slices.Clone(list), x))
			}
		}
		lists = longer
	}
	return lists
}

// choices returns all ascending lists of so many of the first few numbers.
func choices(of, length int) [][]int {
	if length == 0 {
		return [][]int{nil}
	}
	var lists [][]int
	for last := length - 1; last < of; last++ {
		for _, list := range choices(last, length-1) {
			lists = append(lists, append(list, last))
		}
	}
	return lists
}

// slowFewest returns the least number of ties that must change for the ties to be calm.
func slowFewest(d drove) int {
	for count := 0; ; count++ {
		for _, list := range choices(len(d.ties), count) {
			if len(slowSides(drove{d.n, changed(d.ties, list)})) > 0 {
				return count
			}
		}
	}
}

// ways returns the ties in all ways in which they can be feuds or friendships.
func ways(ties []api.Tie) [][]api.Tie {
	list := [][]api.Tie{slices.Clone(ties)}
	for i := range ties {
		for _, way := range list {
			list = append(list, changed(way, []int{i}))
		}
	}
	return list
}

// nameOf returns a text that tells which of the ties are feuds.
func nameOf(ties []api.Tie) string {
	name := ""
	for _, t := range ties {
		if t.Feud {
			name += "x"
		} else {
			name += "."
		}
	}
	return name
}

// slowClasses marks all ways that come from one another, and counts how often it has to begin.
func slowClasses(d drove) int {
	count := 0
	seen := map[string]bool{}
	for _, way := range ways(d.ties) {
		if seen[nameOf(way)] {
			continue
		}
		count++
		for set := range 1 << d.n {
			seen[nameOf(slowSwitch(way, set))] = true
		}
	}
	return count
}

// slowGroups returns the largest sets of drovers that can be reached from each other by ties of one kind.
func slowGroups(d drove, isKind func(t api.Tie) bool) []int {
	var way [8][8]bool
	for drover := range d.n {
		way[drover][drover] = true
	}
	for _, t := range d.ties {
		if isKind(t) {
			way[t.A][t.B], way[t.B][t.A] = true, true
		}
	}
	for over := range d.n {
		for a := range d.n {
			for b := range d.n {
				way[a][b] = way[a][b] || way[a][over] && way[over][b]
			}
		}
	}
	var groups []int
	for a := range d.n {
		group := 0
		for b := range d.n {
			if way[a][b] {
				group += 1 << b
			}
		}
		groups = append(groups, group)
	}
	slices.Sort(groups)
	return slices.Compact(groups)
}

// partings returns all lists of sets such that each of n drovers is in just one of them, and none is empty.
func partings(n int) [][]int {
	if n == 0 {
		return [][]int{nil}
	}
	var lists [][]int
	for _, list := range partings(n - 1) {
		for i := range list {
			with := slices.Clone(list)
			with[i] += 1 << (n - 1)
			lists = append(lists, with)
		}
		lists = append(lists, append(slices.Clone(list), 1<<(n-1)))
	}
	return lists
}

// fit goes by the words of the chapter, for clans such that each drover is in just one of them.
func fit(ties []api.Tie, clans []int) bool {
	for _, t := range ties {
		isTogether := slices.ContainsFunc(clans, func(clan int) bool { return has(clan, t.A) && has(clan, t.B) })
		if isTogether == t.Feud {
			return false
		}
	}
	return true
}

// slowClans returns the clans that fit and that lie within the clans of all others that fit, ascending, or nil.
func slowClans(d drove) []int {
	var fitting [][]int
	for _, clans := range partings(d.n) {
		if fit(d.ties, clans) {
			fitting = append(fitting, clans)
		}
	}
	for _, clans := range fitting {
		isLeast := true
		for _, others := range fitting {
			for _, clan := range clans {
				isLeast = isLeast && slices.ContainsFunc(others, func(other int) bool { return clan&^other == 0 })
			}
		}
		if isLeast {
			return slices.Sorted(slices.Values(clans))
		}
	}
	return nil
}

// notTies returns lists of ties that n drovers cannot have; all but the first ones have few ties.
func notTies(n int) [][]api.Tie {
	lists := [][]api.Tie{complete(8, false)[:21], complete(8, true), make([]api.Tie, 21), make([]api.Tie, 256), make([]api.Tie, 1<<16)}
	for _, x := range append([]int{0, n - 1}, wild...) {
		for _, bad := range [][2]int{{x, 0}, {n, x}, {x, n}, {x, -1}, {-1, x}, {x, x}} {
			tie := api.Tie{A: bad[0], B: bad[1], Feud: x%2 == 0}
			lists = append(lists, []api.Tie{tie})
			if n >= 3 {
				lists = append(lists, []api.Tie{{A: 0, B: 1}, tie}, []api.Tie{tie, {A: 0, B: 1}}, []api.Tie{{A: 0, B: 1}, {A: 0, B: 2}, tie, {A: 1, B: 2}})
			}
		}
	}
	for _, p := range pairs(n) {
		tie, back := api.Tie{A: p[0], B: p[1]}, api.Tie{A: p[1], B: p[0]}
		feud := api.Tie{A: p[0], B: p[1], Feud: true}
		lists = append(lists, []api.Tie{back}, []api.Tie{tie, back}, []api.Tie{tie, tie}, []api.Tie{tie, feud}, []api.Tie{feud, tie}, []api.Tie{feud, feud})
		if n < 7 {
			lists = append(lists, append(complete(n, false), tie), append(complete(n, false), feud), append([]api.Tie{feud}, complete(n, true)...))
		}
	}
	return lists
}
