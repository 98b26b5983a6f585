// Package lits is layer 1: see shared/doc/01-lits.md.
package lits

import (
	"slices"

	"depot/api"
)

// Formed: is it a literal: v or -v of a variable from 1 to api.MaxVar?
func Formed(l int) bool {
	return l != 0 && -api.MaxVar <= l && l <= api.MaxVar
}

// Var: the literal's variable; 0 of what is none.
func Var(l int) int {
	if !Formed(l) {
		return 0
	}
	return max(l, -l)
}

// Index: the literal's place among all: v at 2 v - 2, -v at 2 v - 1; -1 of what is none.
func Index(l int) int {
	if !Formed(l) {
		return -1
	}
	if l < 0 {
		return -2*l - 1
	}
	return 2*l - 2
}

// At: the literal of a place; 0, if there is none.
func At(i int) int {
	if i < 0 || i >= 2*api.MaxVar {
		return 0
	}
	if i%2 == 1 {
		return -(i/2 + 1)
	}
	return i/2 + 1
}

// Sound: are all of them literals?
func Sound(c []int) bool {
	for _, l := range c {
		if !Formed(l) {
			return false
		}
	}
	return true
}

// Tidy: the literals of the list, rising by Index, each once.
func Tidy(c []int) []int {
	return Join(c, nil)
}

// Has: does the literal stand in it?
func Has(c []int, l int) bool {
	return Formed(l) && slices.Contains(c, l)
}

// Taut: does a literal stand in it, and its opposite?
func Taut(c []int) bool {
	last := 0
	for _, l := range Tidy(c) {
		// Opposites have Indexes beside one another, so a tidy list has nothing between them.
		if l == -last {
			return true
		}
		last = l
	}
	return false
}

// Same: are both sound, with the same literals?
func Same(a, b []int) bool {
	return Sound(a) && Sound(b) && slices.Equal(Tidy(a), Tidy(b))
}

// Subsumes: are both sound, and each literal of a one of b's?
func Subsumes(a, b []int) bool {
	if !Sound(a) || !Sound(b) {
		return false
	}
	b = Tidy(b)
	for _, l := range a {
		if !holds(b, l) {
			return false
		}
	}
	return true
}

// Without: the list, tidy, without a literal.
func Without(c []int, l int) []int {
	c = Tidy(c)
	if k, found := find(c, l); found {
		return slices.Delete(c, k, k+1)
	}
	return c
}

// Join: both, tidy.
func Join(a, b []int) []int {
	out := make([]int, 0, len(a)+len(b))
	for _, c := range [2][]int{a, b} {
		for _, l := range c {
			if Formed(l) {
				out = append(out, Index(l))
			}
		}
	}
	// Plain numbers are sorted faster than literals by a function, so the Indexes are, and are turned back.
	slices.Sort(out)
	out = slices.Compact(out)
	for k, i := range out {
		out[k] = At(i)
	}
	return out
}

// find: where a literal stands in a tidy list, and whether it does.
func find(c []int, l int) (int, bool) {
	return slices.BinarySearchFunc(c, Index(l), func(other, i int) int {
		return Index(other) - i
	})
}

// holds: Has of a tidy list, without going through the whole of it.
func holds(c []int, l int) bool {
	_, found := find(c, l)
	return found
}
