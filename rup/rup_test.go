package rup_test

import (
	"math"
	"slices"
	"testing"

	"depot/api"
	"depot/rup"
)

// beyond is the least number above all variables.
const beyond = api.MaxVar + 1

// The chapter's examples.
func TestExamples(t *testing.T) {
	follows(t, over(c(1, 2), c(-1)), c(2), true)
	follows(t, over(c(1, 2), c(-1)), c(-2), false)
	follows(t, over(c(1, 2)), c(2, 1, 3), true)
	follows(t, over(c(1, 2)), c(7, -7), true)
	follows(t, over(c(1), c(-1)), c(), true)
	follows(t, over(c(1, 2)), c(), false)
	refused(t, over(c(1, 2), c(0)), c(1))
	refused(t, over(c(1, 2)), c(0))

	safe(t, over(c(-1, 2)), c(1, -2), true)
	follows(t, over(c(-1, 2)), c(1, -2), false)
	kind(t, over(c(-1, 2)), c(1, -2), rup.Rat)
	safe(t, over(c(-1, 2)), c(-2, 1), true)
	kind(t, over(c(1, 2)), c(3), rup.Rat)
	kind(t, over(c(-1, 2), c(-1, 3), c(-3)), c(1), rup.None)

	kind(t, over(c(1), c(-1)), c(), rup.Rup)
	safe(t, over(c(1), c(-1)), c(), false)
	safe(t, over(c(1, 2)), c(), false)
	kind(t, over(c(1, 2)), c(), rup.None)

	f := over(c(1, -2), c(2), c(-2, -2))
	partners(t, f, 2, 0, 2)
	partners(t, f, -2, 1)
	partners(t, f, 0)
	partners(t, f, 9)

	blocked(t, over(c(-1, 2)), c(1, -2), true)
	blocked(t, over(c(-1, 2)), c(1, 3), false)
	blocked(t, over(c(2)), c(1), true)
	blocked(t, over(c(2)), c(), false)
}

// The kinds' numbers.
func TestKinds(t *testing.T) {
	if rup.None != 0 || rup.Rup != 1 || rup.Rat != 2 {
		t.Error(rup.None, rup.Rup, rup.Rat)
	}
}

// P8.1 to P8.4: of all short formulas and clauses of all kinds the calls answer what the chapter's words say.
func TestSmallFormulas(t *testing.T) {
	for k, f := range small(3) {
		for j, clause := range someClauses() {
			// Of the longest formulas some are enough: the clauses go round.
			if len(f.Clauses) < 3 || (k+j)%7 == 0 {
				agrees(t, f, clause)
			}
		}
		if t.Failed() {
			return
		}
	}
}

// P8.1 to P8.4: so they do of longer ones, with many partners.
func TestDrawnFormulas(t *testing.T) {
	kinds, blocks := map[int]int{}, 0
	for seed := range uint64(6000) {
		f, clause := drawn(seed).longer()
		agrees(t, f, clause)
		kinds[plainKind(f, clause)]++
		if plainBlocked(f, clause) && len(plainPartners(f, clause[0])) > 0 {
			blocks++
		}
	}
	if kinds[rup.None] < 500 || kinds[rup.Rup] < 500 || kinds[rup.Rat] < 500 || blocks < 100 {
		t.Errorf("kinds %v, %d blocked with a partner", kinds, blocks)
	}
}

// P8.1: what is safe by several partners, each of which leads to a clash of its own, and what one of them spoils.
func TestSafeByManyPartners(t *testing.T) {
	// From -1 nothing comes; each partner leads on to another clash, and what it leads to isn't there for the next one.
	f := over(c(-1, 2), c(2, 3), c(2, -3, 4), c(-4, -3), c(-1, 5), c(5, 6), c(5, 7), c(-6, -7))
	safe(t, f, c(1), true)
	kind(t, f, c(1), rup.Rat)
	blocked(t, f, c(1), false)
	for _, spoils := range [][]int{c(-1, 8), c(-1, 3), c(-1, -2), c(-1, -5)} {
		g := over(append(slices.Clone(f.Clauses), spoils)...)
		safe(t, g, c(1), false)
		h := over(append([][]int{spoils}, f.Clauses...)...)
		safe(t, h, c(1), false)
		kind(t, h, c(1), rup.None)
	}
	// The clause's other literals are false for each partner.
	safe(t, over(c(-1, 2), c(2, 3, 4), c(2, 3, -4)), c(1), false)
	safe(t, over(c(-1, 2), c(2, 3, 4), c(2, 3, -4)), c(1, 3), true)
	safe(t, over(c(-1, 2), c(2, 3, 4), c(2, 3, -4)), c(3, 1), true)
	safe(t, over(c(-1, 2), c(-3, 5), c(2, 3, 4), c(2, 3, -4)), c(3, 1), false)
	// What they lead to is so for each partner, too.
	safe(t, over(c(1, 7), c(-1, 7), c(-1, 2, 7)), c(1), true)
	safe(t, over(c(1, 7), c(-1, -7), c(-1, 7)), c(1), false)
	safe(t, over(c(1, 7), c(-1, 2), c(2, -7, 3), c(2, -7, -3)), c(1), true)
}

// P8.1, P8.4: a partner that holds the first literal, too, or another literal beside its opposite, or literals twice.
func TestOddPartners(t *testing.T) {
	for _, x := range []struct {
		f              api.Formula
		clause         []int
		safe, blocked  bool
		kind, partners int
	}{
		{over(c(-1, 1)), c(1), false, false, rup.None, 1},
		{over(c(-1, 1, 2)), c(1), false, false, rup.None, 1},
		{over(c(-1, 1)), c(1, -1), true, true, rup.Rup, 1},
		{over(c(-1, 1)), c(-1, 1), true, true, rup.Rup, 1},
		{over(c(-1, 2)), c(1, -1), true, false, rup.Rup, 1},
		{over(c(-1, 2, -2)), c(1), true, true, rup.Rat, 1},
		{over(c(-1, 2, -2)), c(1, 3), true, true, rup.Rat, 1},
		{over(c(-1, 2)), c(1, 3, -3), true, true, rup.Rup, 1},
		{over(c(-1, -1, 2, 2)), c(1, 1, -2, -2), true, true, rup.Rat, 1},
		{over(c(-1, -1)), c(1, 1), false, false, rup.None, 1},
		{over(c(-1, -1), c(-1)), c(1), false, false, rup.None, 2},
		{over(c(-1), c(2), c(-2)), c(1), true, false, rup.Rup, 1},
		{over(c(), c(-1)), c(1), true, false, rup.Rup, 1},
		{over(c()), c(1), true, true, rup.Rup, 0},
		{form(0), c(1), true, true, rup.Rat, 0},
		{form(0), c(5, -5), true, true, rup.Rup, 0},
		{form(0), c(), false, false, rup.None, 0},
	} {
		agrees(t, x.f, x.clause)
		safe(t, x.f, x.clause, x.safe)
		blocked(t, x.f, x.clause, x.blocked)
		kind(t, x.f, x.clause, x.kind)
		if len(x.clause) > 0 && len(rup.Partners(x.f, x.clause[0])) != x.partners {
			t.Errorf("Partners(%v, %d): %v", x.f, x.clause[0], rup.Partners(x.f, x.clause[0]))
		}
	}
}

// P8.1 to P8.4: no clauses, and the empty clause.
func TestNothing(t *testing.T) {
	for _, f := range []api.Formula{form(0), form(3), form(api.MaxVar)} {
		for _, clause := range someClauses() {
			agrees(t, f, clause)
		}
		for _, l := range c(1, -1, 3, api.MaxVar) {
			partners(t, f, l)
		}
	}
	for _, clause := range [][]int{nil, c(), make([]int, 0, 4)} {
		for _, f := range []api.Formula{form(0), form(0, c()), over(c(1), c(-1)), over(c(1, 2)), over(c(1), c(-1, 2), c(-2))} {
			agrees(t, f, clause)
			safe(t, f, clause, false)
			blocked(t, f, clause, false)
		}
	}
}

// P8.1 to P8.4: a clause's variables may lie above Vars, and above all that stands in a clause.
func TestAboveVars(t *testing.T) {
	f := form(2, c(1, 2), c(-1, 2), c(-2, 1))
	for _, v := range []int{3, 4, 1000, api.MaxVar} {
		for _, l := range c(v, -v) {
			follows(t, f, c(l), false)
			follows(t, f, c(l, -l), true)
			follows(t, f, c(l, 2), true)
			follows(t, f, c(l, -2), false)
			kind(t, f, c(l, -2), rup.Rat)
			kind(t, f, c(-2, l), rup.None)
			safe(t, f, c(2, l), true)
			blocked(t, f, c(l), true)
			blocked(t, f, c(l, 1), true)
			blocked(t, f, c(1, l), false)
			blocked(t, f, c(1, -2, l), true)
			blocked(t, f, c(1, l, -l), true)
			partners(t, f, l)
		}
	}
	g := form(api.MaxVar, c(-api.MaxVar, 2), c(2, 1, -1))
	kind(t, g, c(api.MaxVar, -2), rup.Rat)
	kind(t, g, c(api.MaxVar), rup.None)
	blocked(t, g, c(api.MaxVar, -2), true)
	partners(t, g, api.MaxVar, 0)
	partners(t, g, -api.MaxVar)
}

// P8.3: the numbers rise, each clause once, and only where the opposite stands.
func TestPartners(t *testing.T) {
	f := form(9, c(-2), c(2), c(1, -2, 3), c(2, -2), c(), c(-2, -2, -2), c(1, 3), c(9, -1))
	partners(t, f, 2, 0, 2, 3, 5)
	partners(t, f, -2, 1, 3)
	partners(t, f, 1, 7)
	partners(t, f, -1, 2, 6)
	partners(t, f, -9, 7)
	partners(t, f, 9)
	partners(t, f, 4)
	partners(t, f, -3, 2, 6)
	for seed := range uint64(300) {
		f, _ := drawn(seed).longer()
		for v := 1; v <= f.Vars+1; v++ {
			partners(t, f, v, plainPartners(f, v)...)
			partners(t, f, -v, plainPartners(f, -v)...)
		}
	}
}

// P8.3: of what is no literal there are none, nor in a formula that isn't well shaped.
func TestPartnersOfNothing(t *testing.T) {
	f := form(2, c(1, -2), c(-1))
	for _, l := range noLiterals() {
		partners(t, f, l)
		partners(t, form(2, c(1, -2), c(l), c(-l)), l)
	}
	for _, f := range misshaped() {
		for _, l := range append(noLiterals(), 1, -1, 2, -2) {
			partners(t, f, l)
		}
	}
}

// noLiterals: numbers that are no literals.
func noLiterals() []int {
	return c(0, beyond, -beyond, math.MinInt, math.MinInt+1, math.MaxInt)
}

// misshaped: formulas that aren't well shaped, in which 1 and -1 have partners.
func misshaped() []api.Formula {
	return []api.Formula{
		form(1, c(1), c(-1), c(2)), form(1, c(1, -1), c(-2)), form(2, c(-1), c(), c(1, 0)), form(0, c(1)), form(0, c(-1)), form(-1), form(-1, c()), form(-1, c(-1)),
		form(beyond), form(beyond, c(1), c(-1)), form(math.MinInt, c(-1)), form(math.MaxInt, c(-1)),
		form(3, c(-1), c(math.MinInt)), form(3, c(-1), c(math.MaxInt)), form(api.MaxVar, c(beyond, -1)), form(api.MaxVar, c(-1, -beyond)),
	}
}

// refused says where a call of a formula and a clause isn't refused with ErrShape and nothing else.
func refused(t *testing.T, f api.Formula, clause []int) {
	t.Helper()
	if yes, e := rup.Follows(f, clause); yes || e != api.ErrShape {
		t.Errorf("Follows(%v, %v) = %v, error %d", f, clause, yes, e)
	}
	if yes, e := rup.Safe(f, clause); yes || e != api.ErrShape {
		t.Errorf("Safe(%v, %v) = %v, error %d", f, clause, yes, e)
	}
	if k, e := rup.Kind(f, clause); k != rup.None || e != api.ErrShape {
		t.Errorf("Kind(%v, %v) = %d, error %d", f, clause, k, e)
	}
	if yes, e := rup.Blocked(f, clause); yes || e != api.ErrShape {
		t.Errorf("Blocked(%v, %v) = %v, error %d", f, clause, yes, e)
	}
}

// P8.1, P8.2, P8.4: a formula that isn't well shaped is refused, and a clause that isn't sound, whatever else stands in it.
func TestErrShape(t *testing.T) {
	for _, f := range misshaped() {
		for _, clause := range [][]int{nil, c(1), c(-1, 2), c(1, -1), c(0), c(api.MaxVar)} {
			refused(t, f, clause)
		}
	}
	for _, l := range noLiterals() {
		for _, clause := range [][]int{c(l), c(1, l), c(l, 1), c(1, -1, l), c(l, l), c(2, -1, l, 1)} {
			for _, f := range []api.Formula{form(0), form(0, c()), form(1, c(1), c(-1)), form(2, c(1, 2)), form(api.MaxVar)} {
				refused(t, f, clause)
			}
		}
	}
}

// Any argument: a clause and a formula as large as variables allow come to their end, with many partners.
func TestLarge(t *testing.T) {
	const n = 200000
	long := make([]int, n)
	f := form(api.MaxVar)
	for k := range n {
		long[k] = k + 1
		f.Clauses = append(f.Clauses, c(-1, n+k+1, -k-2))
	}
	// Each partner holds an opposite of the long clause's literals but the last.
	blocked(t, f, long, false)
	safe(t, f, long, false)
	long = append(long, n+1)
	blocked(t, f, long, true)
	kind(t, f, long, rup.Rat)
	if got := len(rup.Partners(f, 1)); got != n {
		t.Errorf("%d partners", got)
	}
	// Each partner leads to a clash by clauses of its own.
	g := form(api.MaxVar)
	for k := range n {
		g.Clauses = append(g.Clauses, c(-1, 2*k+2), c(2*k+2, 2*k+3), c(2*k+2, -2*k-3))
	}
	kind(t, g, c(1), rup.Rat)
	blocked(t, g, c(1), false)
	g.Clauses[3*n-1] = c(2 * n)
	kind(t, g, c(1), rup.Rat)
	g.Clauses[3*n-1] = c(2*n, 2*n+1)
	kind(t, g, c(1), rup.None)
}

// Any argument: a partner as long as a clause can be, beside another one that is nearly the same.
func TestLongPartner(t *testing.T) {
	const n = 200000
	d, other := c(-1), c()
	for v := 2; v <= n; v++ {
		d, other = append(d, v), append(other, v)
	}
	f := form(api.MaxVar, d, append(slices.Clone(other), n+1), append(slices.Clone(other), -n-1))
	kind(t, f, c(1), rup.Rat)
	f.Clauses[2] = append(slices.Clone(other), n+2)
	kind(t, f, c(1), rup.None)
	blocked(t, f, c(1), false)
	blocked(t, f, c(1, -n), true)
}
