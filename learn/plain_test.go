package learn_test

import (
	"slices"
	"testing"

	"depot/api"
	"depot/learn"
)

// isLiteral says by the document's words what a literal is.
func isLiteral(x int) bool {
	return x != 0 && x >= -api.MaxVar && x <= api.MaxVar
}

func isSound(c []int) bool {
	return !slices.ContainsFunc(c, func(x int) bool { return !isLiteral(x) })
}

// placeOf: where the literal's opposite is the Lit of an entry; -1, if nowhere.
func placeOf(trail []api.Entry, x int) int {
	return slices.IndexFunc(trail, func(y api.Entry) bool { return y.Lit == -x })
}

func levelOf(trail []api.Entry, x int) int { return trail[placeOf(trail, x)].Level }

func isFalse(trail []api.Entry, c []int) bool {
	return !slices.ContainsFunc(c, func(x int) bool { return placeOf(trail, x) < 0 })
}

// plainFormed: P15.1 by its words, condition by condition.
func plainFormed(trail []api.Entry) bool {
	for k, x := range trail {
		if !isLiteral(x.Lit) {
			return false
		}
		for _, y := range trail[:k] {
			if y.Lit == x.Lit || y.Lit == -x.Lit {
				return false
			}
		}
	}
	for k, x := range trail {
		if k == 0 && x.Level != 0 && x.Level != 1 {
			return false
		}
		if k > 0 && x.Level != trail[k-1].Level && x.Level-1 != trail[k-1].Level {
			return false
		}
	}
	for k, x := range trail {
		first := !slices.ContainsFunc(trail[:k], func(y api.Entry) bool { return y.Level == x.Level })
		if x.Level > 0 && first != (len(x.Reason) == 0) {
			return false
		}
	}
	for k, x := range trail {
		if len(x.Reason) == 0 {
			continue
		}
		if !isSound(x.Reason) || !slices.Contains(x.Reason, x.Lit) {
			return false
		}
		others := slices.DeleteFunc(slices.Clone(x.Reason), func(y int) bool { return y == x.Lit })
		if !isFalse(trail[:k], others) {
			return false
		}
	}
	return true
}

// byIndex: 1, -1, 2, -2, ..
func byIndex(a, b int) int {
	if max(a, -a) != max(b, -b) {
		return max(a, -a) - max(b, -b)
	}
	return b - a
}

// plainLearn: P15.2 by its words, the set as a list in which nothing stands twice.
func plainLearn(trail []api.Entry, conflict []int) ([]int, int, api.Errno) {
	if !plainFormed(trail) || !isSound(conflict) {
		return nil, 0, api.ErrShape
	}
	if !isFalse(trail, conflict) {
		return nil, 0, api.ErrRange
	}
	var set []int
	put := func(x int) {
		if !slices.Contains(set, x) {
			set = append(set, x)
		}
	}
	top := 0
	for _, x := range conflict {
		put(x)
		top = max(top, levelOf(trail, x))
	}
	if top == 0 {
		return nil, -1, api.OK
	}
	for {
		last, many := 0, 0
		for _, x := range set {
			if levelOf(trail, x) != top {
				continue
			}
			if many++; last == 0 || placeOf(trail, x) > placeOf(trail, last) {
				last = x
			}
		}
		if many <= 1 {
			break
		}
		set = slices.DeleteFunc(set, func(x int) bool { return x == last })
		for _, y := range trail[placeOf(trail, last)].Reason {
			if y != -last {
				put(y)
			}
		}
	}
	var first, others []int
	back := 0
	for _, x := range set {
		switch level := levelOf(trail, x); level {
		case 0:
		case top:
			first = append(first, x)
		default:
			others = append(others, x)
			back = max(back, level)
		}
	}
	slices.SortFunc(others, byIndex)
	return append(first, others...), back, api.OK
}

// isCovered: P15.3 by its words.
func isCovered(trail []api.Entry, clause []int, x int) bool {
	reason := trail[placeOf(trail, x)].Reason
	for _, y := range reason {
		if y != -x && levelOf(trail, y) > 0 && !slices.Contains(clause, y) && !isCovered(trail, clause, y) {
			return false
		}
	}
	return len(reason) > 0
}

// plainShrink: P15.3 by its words.
func plainShrink(trail []api.Entry, clause []int) ([]int, api.Errno) {
	if !plainFormed(trail) || !isSound(clause) {
		return nil, api.ErrShape
	}
	if !isFalse(trail, clause) {
		return nil, api.ErrRange
	}
	var out []int
	for k, x := range clause {
		left := levelOf(trail, x) == 0 || isCovered(trail, clause, x)
		if !slices.Contains(out, x) && (k == 0 || !left) {
			out = append(out, x)
		}
	}
	return out, api.OK
}

// plainLevels: P15.4 by its words.
func plainLevels(trail []api.Entry, clause []int) (int, api.Errno) {
	if !plainFormed(trail) || !isSound(clause) {
		return 0, api.ErrShape
	}
	var levels []int
	for _, x := range clause {
		k := max(placeOf(trail, x), placeOf(trail, -x))
		if k < 0 {
			return 0, api.ErrRange
		}
		if !slices.Contains(levels, trail[k].Level) {
			levels = append(levels, trail[k].Level)
		}
	}
	return len(levels), api.OK
}

// holds: all calls answer as the plain ones do.
func holds(t *testing.T, trail []api.Entry, clause []int) {
	t.Helper()
	if got, want := learn.Formed(trail), plainFormed(trail); got != want {
		t.Fatalf("Formed(%v) = %v", trail, got)
	}
	c, back, e := learn.Learn(trail, clause)
	if d, level, errno := plainLearn(trail, clause); !slices.Equal(c, d) || back != level || e != errno {
		t.Fatalf("Learn(%v, %v) = %v, %d, %d; wanted %v, %d, %d", trail, clause, c, back, e, d, level, errno)
	}
	c, e = learn.Shrink(trail, clause)
	if d, errno := plainShrink(trail, clause); !slices.Equal(c, d) || e != errno {
		t.Fatalf("Shrink(%v, %v) = %v, %d; wanted %v, %d", trail, clause, c, e, d, errno)
	}
	n, e := learn.Levels(trail, clause)
	if m, errno := plainLevels(trail, clause); n != m || e != errno {
		t.Fatalf("Levels(%v, %v) = %d, %d; wanted %d, %d", trail, clause, n, e, m, errno)
	}
}
