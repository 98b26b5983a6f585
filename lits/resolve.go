package lits

import (
	"iter"

	"depot/api"
)

// Resolve: what follows from both on a variable.
func Resolve(a, b []int, v int) ([]int, api.Errno) {
	if !Sound(a) || !Sound(b) || v < 1 || v > api.MaxVar {
		return nil, api.ErrShape
	}
	for _, r := range resolventsOn(Tidy(a), Tidy(b), []int{v}) {
		return r, api.OK
	}
	return nil, api.ErrPivot
}

// Resolvents: what follows from both, variable by variable.
func Resolvents(a, b []int) iter.Seq2[int, []int] {
	if !Sound(a) || !Sound(b) {
		return func(func(int, []int) bool) {}
	}
	// The tidy lists are copies: what becomes of the caller's lists afterwards isn't seen in the sequence.
	a, b = Tidy(a), Tidy(b)
	// By Index v stands ahead of -v, so a's own literals tell the pivots in the order that is asked: on v those of a and b, on -v those of b and a.
	return resolventsOn(a, b, a)
}

// resolventsOn: of two tidy lists, for each of some literals that stands in a with its opposite in b: its variable, and what is left of both without the two.
func resolventsOn(a, b, some []int) iter.Seq2[int, []int] {
	return func(yield func(int, []int) bool) {
		for _, l := range some {
			if !holds(a, l) || !holds(b, -l) {
				continue
			}
			if !yield(Var(l), Join(Without(a, l), Without(b, -l))) {
				return
			}
		}
	}
}
