package cnf

import (
	"iter"

	"depot/api"
)

// truths is a model in the order of counting; of fewer than MaxBrute variables the last places stay false.
type truths [api.MaxBrute]bool

// after: the model behind this one, counted in so many variables; false, if this is the last.
func (t truths) after(vars int) (truths, bool) {
	for k := range vars {
		t[k] = !t[k]
		// A digit that has become true carries nothing on.
		if t[k] {
			return t, true
		}
	}
	return t, false
}

// Models: all models, in the order of counting.
func Models(f api.Formula) iter.Seq[[]bool] {
	if !Formed(f) || f.Vars > api.MaxBrute {
		return func(func([]bool) bool) {}
	}
	// The tidy formula has the same models, and is a copy: what becomes of the caller's clauses afterwards isn't seen in the sequence.
	f, _ = Tidy(f)
	return func(yield func([]bool) bool) {
		var now truths
		for more := true; more; now, more = now.after(f.Vars) {
			if !satisfies(f, now[:f.Vars]) {
				continue
			}
			// The caller may write into what is handed over, and the count goes on from its own.
			own := now
			if !yield(own[:f.Vars]) {
				return
			}
		}
	}
}

// Count: how many models there are.
func Count(f api.Formula) (int, api.Errno) {
	if !Formed(f) {
		return 0, api.ErrShape
	}
	if f.Vars > api.MaxBrute {
		return 0, api.ErrRoom
	}
	n := 0
	for range Models(f) {
		n++
	}
	return n, api.OK
}

// Entails: does each model make the clause true?
func Entails(f api.Formula, c []int) (bool, api.Errno) {
	if !Formed(f) || !fits(c, f.Vars) {
		return false, api.ErrShape
	}
	if f.Vars > api.MaxBrute {
		return false, api.ErrRoom
	}
	for m := range Models(f) {
		if !makesTrue(m, c) {
			return false, api.OK
		}
	}
	return true, api.OK
}
