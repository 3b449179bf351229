package feuds

import (
	"slices"

	"droveway/api"
)

// company is drovers, and the ties between them.
type company struct {
	n    int
	ties []api.Tie
}

// companyOf returns the company of n drovers with these ties, if they can be its ties.
func companyOf(n int, ties []api.Tie) (company, api.Errno) {
	if n < 1 || n > api.MaxDrovers {
		return company{}, api.ErrArg
	}
	if len(ties) > api.MaxTies {
		return company{}, api.ErrLimit
	}
	for i, t := range ties {
		isSame := func(before api.Tie) bool { return before.A == t.A && before.B == t.B }
		if t.A < 0 || t.A >= t.B || t.B >= n || slices.ContainsFunc(ties[:i], isSame) {
			return company{}, api.ErrArg
		}
	}
	return company{n, ties}, api.OK
}

// companyWithSet returns the company if the number is a set of its drovers, too.
func companyWithSet(n int, ties []api.Tie, set int) (company, api.Errno) {
	c, err := companyOf(n, ties)
	if err != api.OK {
		return company{}, err
	}
	if set < 0 || set >= 1<<n {
		return company{}, api.ErrArg
	}
	return c, api.OK
}

// copied returns the company with a list of ties of its own.
func (c company) copied() company {
	ties := make([]api.Tie, len(c.ties))
	copy(ties, c.ties)
	return company{c.n, ties}
}

// both returns the set of the two drovers of a tie.
func both(t api.Tie) int { return 1<<t.A | 1<<t.B }

// isParted reports whether just one drover of a tie is in the set.
func isParted(t api.Tie, set int) bool {
	inside := set & both(t)
	return inside != 0 && inside != both(t)
}

// wrong returns the indices of the ties that are not as calm with the set asks, ascending.
func (c company) wrong(set int) []int {
	var wrong []int
	for i, t := range c.ties {
		if t.Feud != isParted(t, set) {
			wrong = append(wrong, i)
		}
	}
	return wrong
}

// least returns the least set for which the fewest ties are wrong, and these.
func (c company) least() (int, []int) {
	least, fewest := 0, c.wrong(0)
	for set := 1; set < 1<<c.n; set++ {
		wrong := c.wrong(set)
		if len(wrong) < len(fewest) {
			least, fewest = set, wrong
		}
	}
	return least, fewest
}

// sides returns the least set with which the ties are calm.
func (c company) sides() (int, api.Errno) {
	set, wrong := c.least()
	if len(wrong) > 0 {
		return 0, api.ErrPlan
	}
	return set, api.OK
}

// groups returns the largest sets of drovers that can be reached from each other by the ties of one kind, as ascending numbers.
func (c company) groups(isKind func(api.Tie) bool) []int {
	var groups []int
	for drover := range c.n {
		groups = append(groups, 1<<drover)
	}
	for _, t := range c.ties {
		if isKind(t) {
			groups = united(groups, both(t))
		}
	}
	slices.Sort(groups)
	return groups
}

// united makes one group of those that have the drovers of a pair.
func united(groups []int, pair int) []int {
	one := 0
	var out []int
	for _, group := range groups {
		if group&pair != 0 {
			one |= group
		} else {
			out = append(out, group)
		}
	}
	return append(out, one)
}
