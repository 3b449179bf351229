package mobs

import (
	"slices"

	"droveway/api"
)

// isHerd reports whether there can be n beasts.
func isHerd(n int) bool { return n >= 0 && n <= api.MaxHerd }

// areMobs reports whether n beasts may be asked for so many mobs.
func areMobs(n, mobs int) bool { return isHerd(n) && mobs >= 0 && mobs <= n }

// ways returns in how many ways more beasts can come to the mobs that are there, or make new ones.
func ways(more, mobs int) int {
	// row has the number of ways for the last beasts, if there are mobs before them, mobs + 1, and so on.
	row := slices.Repeat([]int{1}, more+1)
	for before := more; before > 0; before-- {
		for k := range before {
			row[k] = (mobs+k)*row[k] + row[k+1]
		}
	}
	return row[0]
}

// rank returns how many partings of as many beasts are less.
func (p parting) rank() int {
	rank, mobs := 0, 0
	for beast, mob := range p {
		// Each lesser number is of a mob that is there, so that the beasts behind have as many ways for each of them.
		rank += mob * ways(len(p)-beast-1, mobs)
		mobs = max(mobs, mob+1)
	}
	return rank
}

// ranked returns the parting of n beasts that has a rank, of which there must be one.
func ranked(n, rank int) parting {
	p := make(parting, n)
	mobs := 0
	for beast := range p {
		each := ways(n-beast-1, mobs)
		mob := min(rank/each, mobs)
		rank -= mob * each
		p[beast] = mob
		mobs = max(mobs, mob+1)
	}
	return p
}

// partings returns the number of partings of n beasts with so many mobs.
func partings(n, mobs int) int {
	// counts has, for each number of mobs, how many partings of the beasts so far have so many.
	counts := make([]int, n+1)
	counts[0] = 1
	for beasts := 1; beasts <= n; beasts++ {
		for k := beasts; k > 0; k-- {
			counts[k] = k*counts[k] + counts[k-1]
		}
		counts[0] = 0
	}
	return counts[mobs]
}

// plain returns the number of partings of n beasts with so many mobs that are not crossed: Narayana's number.
func plain(n, mobs int) int {
	if n == 0 {
		return 1
	}
	return choose(n, mobs) * choose(n, mobs-1) / n
}

// choose returns the number of ways to choose k of n.
func choose(n, k int) int {
	if k < 0 {
		return 0
	}
	count := 1
	for i := range k {
		// The product of so many numbers in a row leaves no rest.
		count = count * (n - i) / (i + 1)
	}
	return count
}
