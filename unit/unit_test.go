package unit_test

import (
	"math"
	"slices"
	"testing"

	"depot/api"
	"depot/unit"
)

// beyond is the least number above all variables.
const beyond = api.MaxVar + 1

// The chapter's examples.
func TestExamples(t *testing.T) {
	f := form(4, c(1), c(-1, 2), c(-2, 3, 4))
	closes(t, f, nil, c(1, 2), false)
	closes(t, f, c(-3), c(1, 2, -3, 4), false)
	closes(t, f, c(-3, -4), nil, true)
	closes(t, form(2, c(1, 2)), nil, nil, false)
	closes(t, form(1, c(1, -1)), nil, nil, false)
	closes(t, form(1, c(1, 1)), nil, c(1), false)
	closes(t, form(0, c()), nil, nil, true)
	closes(t, form(0), c(5, -7, 5), c(5, -7), false)
	closes(t, form(0), c(3, -3), nil, true)

	explains(t, form(3, c(-1, 2), c(1), c(-2, 3)), nil, -1, api.Cause{Lit: 1, Clause: 1}, api.Cause{Lit: 2, Clause: 0}, api.Cause{Lit: 3, Clause: 2})
	explains(t, form(2, c(-2), c(1), c(-1, 2)), nil, 2, api.Cause{Lit: -2, Clause: 0}, api.Cause{Lit: 1, Clause: 1})
	explains(t, form(2, c(2), c(-1), c(1)), c(1), 1, api.Cause{Lit: 2, Clause: 0})

	forces(t, form(2, c(-1, 2)), c(1), 2, true)
	forces(t, form(2, c(-1, 2)), c(1), -2, false)
	forces(t, form(2, c(-1, 2)), c(1, -1), 5, true)

	probes(t, form(2, c(-1, 2), c(-1, -2)), 1)
	probes(t, form(1, c(1)), -1)
	probes(t, form(1, c(1), c(-1)), 1, -1)
}

// P6.1, P6.3, P6.4: all short formulas, from facts of all kinds, are closed as the chapter's words say.
func TestSmallFormulas(t *testing.T) {
	for k, f := range small(3) {
		for j, facts := range someFacts() {
			// Of the longest formulas some are enough: the facts go round.
			if len(f.Clauses) < 3 || (k+j)%5 == 0 {
				agrees(t, f, facts)
			}
		}
		if t.Failed() {
			return
		}
	}
}

// P6.1, P6.3, P6.4: so are longer ones, with many clauses that wait on one another.
func TestDrawnFormulas(t *testing.T) {
	clashes, led := 0, 0
	for seed := range uint64(1500) {
		draw := drawn(seed)
		f, facts := draw.longer()
		agrees(t, f, facts)
		want, clash := closed(f, facts)
		if clash {
			clashes++
		} else if len(want) > len(facts) {
			led++
		}
	}
	if clashes < 200 || led < 200 {
		t.Errorf("%d clashes, %d closures with more than the facts", clashes, led)
	}
}

// P6.1: facts stand in the closure, each once, by Index, also where no clause has heard of them.
func TestCloseFacts(t *testing.T) {
	f := form(3, c(-1, -3))
	closes(t, f, nil, nil, false)
	closes(t, f, c(2), c(2), false)
	closes(t, f, c(3, 2, 3, 3), c(-1, 2, 3), false)
	closes(t, f, c(9, -4, 1, 9), c(1, -3, -4, 9), false)
	closes(t, f, c(api.MaxVar, -2), c(-2, api.MaxVar), false)
	closes(t, f, c(-api.MaxVar, 1), c(1, -3, -api.MaxVar), false)
	closes(t, f, c(api.MaxVar, 1, -api.MaxVar), nil, true)
	closes(t, f, c(4, -4), nil, true)
	closes(t, f, c(2, 1, -2), nil, true)
	closes(t, form(0, c(), c()), c(5), nil, true)
	closes(t, form(2, c(1), c()), nil, nil, true)
	closes(t, form(2, c(2, -2)), c(-2), c(-2), false)
	closes(t, form(2, c(1, 2, -2)), c(-1, 2), c(-1, 2), false)
	closes(t, form(2, c(1, 2, 1, 2, 2)), c(-2), c(1, -2), false)
	closes(t, form(2, c(2, 2, 1, 2)), c(-2, -1), nil, true)
	closes(t, form(api.MaxVar, c(-1, api.MaxVar), c(-api.MaxVar, 1, -3)), c(1), c(1, api.MaxVar), false)
	closes(t, form(api.MaxVar, c(-1, api.MaxVar), c(-api.MaxVar, -3)), c(1), c(1, -3, api.MaxVar), false)
}

// P6.3: each time the least of all clauses that are false or unit is taken, wherever the one ahead stood.
func TestWhyTakesTheLeast(t *testing.T) {
	cause := func(l, n int) api.Cause { return api.Cause{Lit: l, Clause: n} }
	// The clause 0 is unit only behind 4 and 5, and goes, as 1 does then, ahead of 6, which was unit from the beginning.
	f := form(6, c(-1, 2, 3), c(-3, 4), c(5, 6), c(-4, -2), c(1, 1), c(-2), c(6))
	explains(t, f, nil, -1, cause(1, 4), cause(-2, 5), cause(3, 0), cause(4, 1), cause(6, 6))
	// Backwards: each clause has been waiting for the one behind it.
	explains(t, form(4, c(-3, 4), c(-2, 3), c(-1, 2), c(1)), nil, -1, cause(1, 3), cause(2, 2), cause(3, 1), cause(4, 0))
	// A clause that is false has to wait its turn like all others.
	explains(t, form(3, c(2), c(3), c(-1)), c(1), 2, cause(2, 0), cause(3, 1))
	explains(t, form(3, c(-1), c(2), c(3)), c(1), 0)
	explains(t, form(3, c(2), c(), c(3)), nil, 1, cause(2, 0))
	explains(t, form(3, c(), c(2)), nil, 0)
	// A clause that was unit becomes false while it waits; two are false, and the least is told.
	explains(t, form(2, c(1), c(2), c(-1, -2), c(-2, -1), c(-1)), nil, 2, cause(1, 0), cause(2, 1))
	explains(t, form(2, c(2), c(-2), c(-2)), nil, 1, cause(2, 0))
	// Clauses that are true, or say a fact again, put nothing.
	explains(t, form(3, c(1), c(1), c(1, 2), c(2, -2), c(-3)), c(-3, -3), -1, cause(1, 0))
	explains(t, form(0), c(7, 7, -8), -1)
	explains(t, form(2), nil, -1)
	explains(t, form(1, c(1)), c(5), -1, cause(1, 0))
}

// P6.3: the least is found among many clauses, at all distances.
func TestWhyAmongMany(t *testing.T) {
	const n = 5000
	f := form(n)
	for v := 1; v < n; v++ {
		f.Clauses = append(f.Clauses, c(-v, v+1))
	}
	draw := drawn(7)
	at := make([]int, n)
	for k := range at {
		at[k] = k
	}
	for k := n - 2; k > 0; k-- {
		j := draw.Intn(k + 1)
		f.Clauses[k], f.Clauses[j] = f.Clauses[j], f.Clauses[k]
	}
	for number, clause := range f.Clauses {
		at[-clause[0]] = number
	}
	var want []api.Cause
	for v := 1; v < n; v++ {
		want = append(want, api.Cause{Lit: v + 1, Clause: at[v]})
	}
	explains(t, f, c(1), -1, want...)
	// All at once: the order is the clauses'.
	f, want = form(n), nil
	for v := n; v >= 1; v-- {
		want = append(want, api.Cause{Lit: v, Clause: len(f.Clauses)})
		f.Clauses = append(f.Clauses, c(v))
	}
	explains(t, f, nil, -1, want...)
	f.Clauses = append(f.Clauses, c(-n, -1))
	explains(t, f, nil, n, want...)
}

// Any argument: a closing of as many literals as there are variables comes to its end, in whatever order its clauses stand.
func TestLongChain(t *testing.T) {
	f := form(api.MaxVar)
	for v := api.MaxVar - 1; v >= 1; v-- {
		f.Clauses = append(f.Clauses, c(-v, v+1))
	}
	got, clash, e := unit.Close(f, c(1))
	if e != api.OK || clash || len(got) != api.MaxVar || got[0] != 1 || got[api.MaxVar-1] != api.MaxVar {
		t.Errorf("Close of a long chain: %d literals, %v, error %d", len(got), clash, e)
	}
	if _, clash, e = unit.Close(f, c(1, -api.MaxVar)); e != api.OK || !clash {
		t.Errorf("Close of a long chain to a clash: %v, error %d", clash, e)
	}
	long := form(api.MaxVar, make([]int, api.MaxVar))
	facts := make([]int, api.MaxVar-1)
	for k := range api.MaxVar {
		long.Clauses[0][k] = k + 1
		if k > 0 {
			facts[k-1] = -k - 1
		}
	}
	if got, clash, e = unit.Close(long, facts); e != api.OK || clash || len(got) != api.MaxVar || got[0] != 1 {
		t.Errorf("Close of a long clause: %d literals, %v, error %d", len(got), clash, e)
	}
}

// misshaped: formulas that aren't well shaped.
func misshaped() []api.Formula {
	return []api.Formula{
		form(1, c(2)), form(1, c(-2)), form(2, c(1), c(), c(1, 0)), form(0, c(1)), form(-1), form(-1, c()), form(beyond), form(beyond, c(1)),
		form(math.MinInt), form(math.MaxInt), form(3, c(math.MinInt)), form(3, c(math.MaxInt)), form(api.MaxVar, c(beyond)), form(api.MaxVar, c(-beyond)),
	}
}

// unsound: lists that aren't sound.
func unsound() [][]int {
	return [][]int{c(0), c(1, 0), c(0, 1), c(beyond), c(-beyond), c(1, math.MinInt), c(math.MaxInt, 1), c(1, -1, 0)}
}

// shapeless says where a call of a formula and facts isn't refused with ErrShape and nothing else.
func shapeless(t *testing.T, f api.Formula, facts []int) {
	t.Helper()
	if l, clash, e := unit.Close(f, facts); e != api.ErrShape || clash || len(l) != 0 {
		t.Errorf("Close(%v; %v) = %v, %v, error %d", f, facts, l, clash, e)
	}
	if l, clause, e := unit.Why(f, facts); e != api.ErrShape || clause != 0 || len(l) != 0 {
		t.Errorf("Why(%v; %v) = %v, %d, error %d", f, facts, l, clause, e)
	}
	if yes, e := unit.Forces(f, facts, 1); e != api.ErrShape || yes {
		t.Errorf("Forces(%v; %v; 1) = %v, error %d", f, facts, yes, e)
	}
}

// P6.1, P6.3, P6.4, P6.5: what isn't well shaped, or not sound, is refused, ahead of all else.
func TestErrShape(t *testing.T) {
	for _, f := range misshaped() {
		for _, facts := range [][]int{nil, c(1), c(1, -1), c(0), c(api.MaxVar)} {
			shapeless(t, f, facts)
		}
		if l, e := unit.Probe(f); e != api.ErrShape || len(l) != 0 {
			t.Errorf("Probe(%v) = %v, error %d", f, l, e)
		}
	}
	for _, facts := range unsound() {
		for _, f := range []api.Formula{form(0), form(1, c(1)), form(0, c()), form(2, c(1), c(-1)), form(api.MaxVar)} {
			shapeless(t, f, facts)
		}
	}
}

// P6.4: so is what is no literal, a clash or not.
func TestForcesNoLiteral(t *testing.T) {
	for _, l := range c(0, beyond, -beyond, math.MinInt, math.MaxInt) {
		for _, facts := range [][]int{nil, c(1), c(1, -1), c(-2)} {
			for _, f := range []api.Formula{form(2, c(1, 2)), form(0, c()), form(api.MaxVar)} {
				if yes, e := unit.Forces(f, facts, l); e != api.ErrShape || yes {
					t.Errorf("Forces(%v; %v; %d) = %v, error %d", f, facts, l, yes, e)
				}
			}
		}
	}
}

// P6.3: facts that hold a literal beside its opposite are refused, but by Why alone.
func TestErrClash(t *testing.T) {
	for _, facts := range [][]int{c(1, -1), c(-2, 5, 2), c(9, -9), c(api.MaxVar, 1, 1, -api.MaxVar)} {
		for _, f := range []api.Formula{form(0), form(0, c()), form(2, c(1), c(2)), form(1, c(-1))} {
			if l, clause, e := unit.Why(f, facts); e != api.ErrClash || clause != 0 || len(l) != 0 {
				t.Errorf("Why(%v; %v) = %v, %d, error %d", f, facts, l, clause, e)
			}
			closes(t, f, facts, nil, true)
			forces(t, f, facts, 5, true)
			forces(t, f, facts, -api.MaxVar, true)
		}
	}
}

// P6.4: what stands in the closure is forced, also a fact above all clauses; and all of a clash.
func TestForces(t *testing.T) {
	f := form(4, c(-1, 2), c(-2, 3, 4))
	forces(t, f, nil, 1, false)
	forces(t, f, c(1), 1, true)
	forces(t, f, c(1), 2, true)
	forces(t, f, c(1), -2, false)
	forces(t, f, c(1), 3, false)
	forces(t, f, c(1, -3), 4, true)
	forces(t, f, c(-4, 1, -3), 4, true)
	forces(t, f, c(-4, 1, -3), -api.MaxVar, true)
	forces(t, f, c(9, 1), 9, true)
	forces(t, f, c(9, 1), -9, false)
	forces(t, f, c(api.MaxVar), api.MaxVar, true)
	forces(t, f, c(1), api.MaxVar, false)
	forces(t, form(1, c(1)), nil, 1, true)
	forces(t, form(0, c()), nil, 1, true)
}

// P6.5: all short formulas are probed as the chapter's words say.
func TestProbeSmall(t *testing.T) {
	for _, f := range small(3) {
		probes(t, f, probed(f)...)
		if t.Failed() {
			return
		}
	}
}

// P6.5: so are longer ones, in which a probe takes back what another one has found.
func TestProbeDrawn(t *testing.T) {
	some, all := 0, 0
	for seed := range uint64(600) {
		draw := drawn(seed)
		f, _ := draw.longer()
		want := probed(f)
		probes(t, f, want...)
		switch {
		case len(want) == 2*f.Vars:
			all++
		case len(want) > 0:
			some++
		}
	}
	if some < 100 || all < 20 {
		t.Errorf("some literals clash in %d, all in %d", some, all)
	}
}

// P6.5: variables in no clause lead to a clash only where all do.
func TestProbeFurtherVariables(t *testing.T) {
	probes(t, form(0))
	probes(t, form(0, c()))
	probes(t, form(3))
	probes(t, form(2, c()), 1, -1, 2, -2)
	probes(t, form(3, c(-1)), 1)
	probes(t, form(3, c(2), c(-2)), 1, -1, 2, -2, 3, -3)
	probes(t, form(4, c(-1, 2), c(-2, 3), c(-3, -2)), 1, 2)
	probes(t, form(4, c(1, 4), c(1, -4)), -1)
	probes(t, form(2, c(1, -1), c(2, 2)), -2)
}

// P6.5: of MaxProbe variables it answers, of one more it refuses.
func TestProbeRoom(t *testing.T) {
	f := form(api.MaxProbe)
	probes(t, f)
	for v := 1; v < api.MaxProbe; v++ {
		f.Clauses = append(f.Clauses, c(-v, v+1))
	}
	probes(t, f)
	f.Clauses = append(f.Clauses, c(-api.MaxProbe, -api.MaxProbe+1))
	want := make([]int, api.MaxProbe-1)
	for k := range want {
		want[k] = k + 1
	}
	probes(t, f, want...)
	f.Clauses = append(f.Clauses, c())
	if got, e := unit.Probe(f); e != api.OK || len(got) != 2*api.MaxProbe || got[0] != 1 || !slices.Equal(got[2*api.MaxProbe-2:], c(api.MaxProbe, -api.MaxProbe)) {
		t.Errorf("Probe of a clash: %d literals, error %d", len(got), e)
	}
	for _, f := range []api.Formula{form(api.MaxProbe + 1), form(api.MaxProbe+1, c(1), c(-1)), form(api.MaxVar, c()), form(api.MaxVar)} {
		if got, e := unit.Probe(f); e != api.ErrRoom || len(got) != 0 {
			t.Errorf("Probe of %d variables: %v, error %d", f.Vars, got, e)
		}
	}
	if got, e := unit.Probe(form(api.MaxProbe+1, c(0))); e != api.ErrShape || len(got) != 0 {
		t.Errorf("Probe of what isn't well shaped, and too large: %v, error %d", got, e)
	}
}
