package breed

import (
	"slices"
	"strconv"
	"strings"

	"droveway/api"
)

// tree is a beast or a family.
type tree interface {
	// beasts is the set of all beasts of the tree.
	beasts() set
	// text is the tree as a string.
	text() string
}

// beast is a tree of just one.
type beast int

func (b beast) beasts() set { return 1 << b }

func (b beast) text() string { return strconv.Itoa(int(b)) }

// family is a tree of two parts or more, which are in the order of their least beasts. The set has the beasts of all parts.
type family struct {
	set
	parts []tree
}

func (f family) text() string {
	var parts []string
	for _, part := range f.parts {
		parts = append(parts, part.text())
	}
	return "(" + strings.Join(parts, ",") + ")"
}

// join makes one tree of trees that have no beast in common, and puts them in order. Of just one it makes no family.
func join(parts []tree) tree {
	if len(parts) == 1 {
		return parts[0]
	}
	slices.SortFunc(parts, func(a, b tree) int { return int(a.beasts().least() - b.beasts().least()) })
	f := family{parts: parts}
	for _, part := range parts {
		f.set |= part.beasts()
	}
	return f
}

// treeOf reads a tree of n beasts.
func treeOf(n int, text string) (tree, api.Errno) {
	if !isNumber(n) {
		return nil, api.ErrArg
	}
	// There are fewer families than beasts, each with two brackets, and fewer commas than beasts. A longer text is no tree, and
	// might be too deep to be read.
	if len(text) > n+3*(n-1) {
		return nil, api.ErrForm
	}
	t, rest, ok := read(text)
	if !ok || rest != "" || t.beasts() != all(n) {
		return nil, api.ErrForm
	}
	return t, api.OK
}

// read returns the tree with which a text begins, and what comes after it; it is false if there is none.
func read(text string) (tree, string, bool) {
	if text == "" {
		return nil, "", false
	}
	if text[0] == '(' {
		return readFamily(text)
	}
	b := int(text[0]) - '0'
	return beast(b), text[1:], isBeast(api.MaxBeasts, b)
}

// readFamily returns the family with which a text begins, and what comes after it; it is false if there is none.
func readFamily(text string) (tree, string, bool) {
	var parts []tree
	for text[0] != ')' {
		// The text begins with the bracket or a comma, and a tree comes next.
		part, rest, ok := read(text[1:])
		if !ok || rest == "" || rest[0] != ',' && rest[0] != ')' {
			return nil, "", false
		}
		parts = append(parts, part)
		text = rest
	}
	if !areParts(parts) {
		return nil, "", false
	}
	return join(parts), text[1:], true
}

// areParts reports whether trees are two or more, have no beast in common, and are in the order of their least beasts.
func areParts(parts []tree) bool {
	before := set(0)
	for i, part := range parts {
		if part.beasts().meets(before) || i > 0 && part.beasts().least() < parts[i-1].beasts().least() {
			return false
		}
		before |= part.beasts()
	}
	return len(parts) >= 2
}

// familyOf returns the least set of all beasts of some part of a tree that has some of its beasts.
func familyOf(t tree, some set) set {
	switch t := t.(type) {
	case family:
		for _, part := range t.parts {
			if part.beasts().has(some) {
				return familyOf(part, some)
			}
		}
		return t.set
	default:
		return t.beasts()
	}
}

// kept returns the tree of those of its beasts that are in a set, which has one of them at least.
func kept(t tree, s set) tree {
	switch t := t.(type) {
	case family:
		var parts []tree
		for _, part := range t.parts {
			if part.beasts().meets(s) {
				parts = append(parts, kept(part, s))
			}
		}
		return join(parts)
	default:
		return t
	}
}

// shows reports whether the family of A and B does not have C.
func shows(t tree, triple api.Triple) bool {
	return !familyOf(t, setWith(triple.A, triple.B)).has(setWith(triple.C))
}
