package drat

import (
	"strconv"

	"depot/api"
	"depot/lits"
)

// reader makes steps of words.
type reader struct {
	give   func(api.Step) bool
	open   bool  // a step has begun, and its 0 is yet to come
	drop   bool  // it began with d
	clause []int // its literals so far
}

// take takes the next word; false, if it can't stand there, or if give had enough.
func (r *reader) take(word string) bool {
	if word == "d" && !r.open {
		r.open, r.drop = true, true
		return true
	}
	n, ok := number(word)
	switch {
	case !ok:
		return false
	case n == 0:
		return r.give(r.end())
	}
	r.open = true
	r.clause = append(r.clause, n)
	return true
}

// end ends the step and answers it.
func (r *reader) end() api.Step {
	step := api.Step{Drop: r.drop, Lits: append([]int(nil), r.clause...)}
	r.open, r.drop, r.clause = false, false, r.clause[:0]
	return step
}

// number: the literal, or 0, that the word is; false, if it is neither.
func number(word string) (int, bool) {
	n, err := strconv.Atoi(word)
	if err != nil || n != 0 && !lits.Formed(n) {
		return 0, false
	}
	// A number has just one form in tens, and it is the one in which it is written.
	return n, strconv.Itoa(n) == word
}
