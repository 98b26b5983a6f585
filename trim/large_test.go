package trim_test

import (
	"slices"
	"testing"

	"depot/api"
	"depot/forward"
	"depot/trim"
)

// chain: a formula whose variables 1 to n say each the next; the first is true and the last isn't.
func chain(n int) api.Formula {
	f := form(n, c(1))
	for v := 1; v < n; v++ {
		f.Clauses = append(f.Clauses, c(-v, v+1))
	}
	f.Clauses = append(f.Clauses, c(-n))
	return f
}

// trimsLarge: Trim answers that many clauses and steps, and forward accepts them. To try all that could be left out would take too long.
func trimsLarge(t *testing.T, f api.Formula, steps []api.Step, clauses, additions int) []int {
	t.Helper()
	core, proof, e := trim.Trim(f, steps)
	if e != api.OK || len(core) != clauses || len(proof) != additions || !rises(core, len(f.Clauses)) || !trim.Within(proof, steps) {
		t.Fatalf("core %s (%d), proof %s (%d), error %d", cut(core), len(core), cut(proof), len(proof), e)
	}
	g, _ := trim.Only(f, core)
	if r, _ := forward.Check(g, proof); r.Code != api.Accepted {
		t.Fatalf("the proof ends with %v", r)
	}
	return core
}

// Any argument: a row of literals, each saying the next, all of which are needed.
func TestLongChain(t *testing.T) {
	const n = 100000
	f := chain(n)
	trimsLarge(t, f, row(add()), n+1, 1)
	draw := drawn(1)
	f.Clauses = shuffled(draw, f.Clauses)
	trimsLarge(t, f, row(add()), n+1, 1)
}

// Any argument: a formula of as many variables as there can be, with a proof that needs hardly any of them.
func TestManyNeedless(t *testing.T) {
	const n = api.MaxVar
	f := chain(n)
	f.Clauses = append(f.Clauses[:len(f.Clauses)-1], c(-5))
	core := trimsLarge(t, f, row(add(n), add(n/2), add(-1, n), add()), 6, 1)
	if !slices.Equal(core, c(0, 1, 2, 3, 4, n)) {
		t.Errorf("core %s", cut(core))
	}
}

// Any argument: many additions that nobody needs in the end, and many that are needed one behind the other.
func TestManyAdditions(t *testing.T) {
	const n = 200000
	f := chain(n)
	f.Vars += 2
	f.Clauses = append(f.Clauses[1:len(f.Clauses)-1], c(n+1, n+2), c(n+1, -n-2), c(-n-1, n+2), c(-n-1, -n-2))
	var steps []api.Step
	for v := 1; v+2 <= n; v++ {
		steps = append(steps, add(-v, v+2), drop(-v, v+2))
	}
	at := len(steps)
	steps = append(steps, add(n+2), add())
	core := trimsLarge(t, f, steps, 4, 2)
	if !slices.Equal(core, c(n-1, n, n+1, n+2)) {
		t.Errorf("core %s", cut(core))
	}
	if _, _, e := trim.Trim(f, steps[:at+1]); e != api.ErrRefused {
		t.Errorf("without the empty clause: error %d", e)
	}
	if _, _, e := trim.Trim(f, append(steps[:at:at], add())); e != api.ErrRefused {
		t.Errorf("without the clause ahead of it: error %d", e)
	}
}

// Any argument: a proof whose additions are needed one behind the other.
func TestLadder(t *testing.T) {
	const n = 1000
	f := form(2*n, c(1))
	var steps []api.Step
	for v := 1; v < n; v++ {
		f.Clauses = append(f.Clauses, c(-v, v+1, n+v), c(-v, v+1, -n-v))
		steps = append(steps, add(v+1))
	}
	f.Clauses = append(f.Clauses, c(-n))
	trimsLarge(t, f, append(steps, add()), len(f.Clauses), n-1)
}

// Any argument: a clause of many literals that become false one behind the other, the first one first or the last.
func TestLongClause(t *testing.T) {
	const n = 200000
	var long []int
	for v := n; v > 0; v-- {
		long = append(long, -v)
	}
	for range 2 {
		f := chain(n)
		f.Clauses[n] = long
		trimsLarge(t, f, row(add(long[1:]...), add()), n+1, 1)
		long = slices.Clone(long)
		slices.Reverse(long)
	}
}

// P12.3, Any argument: long lists of steps are held against each other without trying all ways.
func TestLongWithin(t *testing.T) {
	var a, b []api.Step
	for k := range 200000 {
		b = append(b, add(k%3), drop(k%3))
		a = append(a, add(k%3))
	}
	within(t, a, b, true)
	within(t, b, b, true)
	within(t, b, a, false)
	within(t, append(slices.Clone(a), add(7)), b, false)
	within(t, append(row(add(7)), a...), b, false)
}
