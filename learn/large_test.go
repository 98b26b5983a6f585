package learn_test

import (
	"slices"
	"testing"

	"depot/api"
	"depot/learn"
)

// row: one decision, and so many entries more, each implied by the one ahead.
func row(entries int) []api.Entry {
	trail := []api.Entry{at(1, 1)}
	for v := 2; v <= entries; v++ {
		trail = append(trail, at(v, 1, v, 1-v))
	}
	return trail
}

// P15.1 to P15.4: as many entries as there are variables, in one chain of reasons.
func TestOneLongChain(t *testing.T) {
	const n = api.MaxVar
	trail := row(n)
	if !learn.Formed(trail) {
		t.Fatal("it is well shaped")
	}
	learns(t, trail, list(-n, -1), list(-1), 0)
	learns(t, trail, list(-n), list(-n), 0)
	shrinks(t, trail, list(-1, -n), list(-1))
	shrinks(t, trail, list(-n, -n+1), list(-n, -n+1))
	counts(t, trail, list(-n, n/2), 1)
	if learn.Formed(append(trail, at(n, 1, n, 1-n))) || learn.Formed(append(trail, at(n+1, 1, n+1, -n))) {
		t.Error("more entries than variables")
	}
}

// P15.3: a chain of reasons of any length.
func TestShrinkChains(t *testing.T) {
	for _, n := range list(2, 3, 100, 1<<16-1, 1<<16, 1<<16+1, 1<<16+2, 1<<17) {
		trail := row(n)
		shrinks(t, trail, list(-1, -n), list(-1))
		trail = append(trail, at(n+1, 2))
		shrinks(t, trail, list(-n-1, -n), list(-n-1, -n))
		shrinks(t, trail, list(-n-1, -n, -1), list(-n-1, -1))
	}
}

// P15.1, P15.2 and P15.4: as many levels as there are variables.
func TestManyLevels(t *testing.T) {
	const n = api.MaxVar
	var trail []api.Entry
	var all, others []int
	for v := 1; v <= n; v++ {
		trail = append(trail, at(-v, v))
		all = append(all, v)
	}
	if !learn.Formed(trail) {
		t.Fatal("it is well shaped")
	}
	others = append(list(n), all[:n-1]...)
	learns(t, trail, all, others, n-1)
	learns(t, trail, list(7, n), list(n, 7), 7)
	shrinks(t, trail, all, all)
	counts(t, trail, all, n)
}

// P15.3: where each entry has two reasons' worth of ways down, none is gone twice.
func TestShrinkManyWays(t *testing.T) {
	trail := []api.Entry{at(1, 1), at(2, 1, 2, -1), at(3, 1, 3, -1)}
	for v := 4; v <= 20001; v += 2 {
		trail = append(trail, at(v, 1, v, 2-v, 1-v), at(v+1, 1, v+1, 2-v, 1-v))
	}
	last := trail[len(trail)-1].Lit
	shrinks(t, trail, list(-1, -last), list(-1))
	trail = append(trail, at(last+1, 2))
	shrinks(t, trail, list(-last-1, -last), list(-last-1, -last))
	shrinks(t, trail, list(-last-1, -last, -1), list(-last-1, -1))
	learns(t, trail, list(-last, 1-last), list(-1), 0)
}

// P15.2 and P15.3: a long clause and long reasons, literals twice.
func TestLongClauses(t *testing.T) {
	const n = 3000
	var trail []api.Entry
	var all []int
	for v := 1; v <= n; v++ {
		trail = append(trail, at(v, v))
		all = append(all, -v)
	}
	trail = append(trail, at(n+1, n, append(slices.Clone(all), n+1)...))
	turned := slices.Clone(all)
	slices.Reverse(turned)
	conflict := slices.Concat(all, list(-n-1), turned)
	want := append(list(-n), all[:n-1]...)
	learns(t, trail, conflict, want, n-1)
	shrinks(t, trail, conflict, all)
	shrinks(t, trail, slices.Concat(turned, conflict), turned)
	counts(t, trail, conflict, n)
}
