package solve_test

import (
	"math"
	"slices"
	"testing"

	"depot/api"
	"depot/cnf"
	"depot/forward"
	"depot/rup"
	"depot/solve"
)

// form: a formula of so many variables and these clauses.
func form(vars int, clauses ...[]int) api.Formula {
	return api.Formula{Vars: vars, Clauses: clauses}
}

// c: a clause.
func c(literals ...int) []int { return literals }

// none is a formula of two variables that no model satisfies, and that takes a decision to be seen.
func none() api.Formula { return form(2, c(1, 2), c(-1, 2), c(1, -2), c(-1, -2)) }

// pigeons: one more than holes, of which each wants one for itself.
func pigeons(holes int) api.Formula {
	in := func(p, h int) int { return holes*p + h + 1 }
	f := form(holes * (holes + 1))
	for p := range holes + 1 {
		var some []int
		for h := range holes {
			some = append(some, in(p, h))
			for q := range p {
				f.Clauses = append(f.Clauses, c(-in(p, h), -in(q, h)))
			}
		}
		f.Clauses = append(f.Clauses, some)
	}
	return f
}

// drawer draws numbers, the same ones each time.
type drawer struct{ state uint64 }

func drawn(seed uint64) *drawer { return &drawer{seed*2654435761 + 12345} }

// Intn: a number from 0 to n - 1.
func (d *drawer) Intn(n int) int {
	d.state = d.state*6364136223846793005 + 1442695040888963407
	return int(d.state>>33) % n
}

// literal: a literal of the variables 1 to vars.
func (d *drawer) literal(vars int) int {
	l := 1 + d.Intn(vars)
	if d.Intn(2) == 0 {
		return -l
	}
	return l
}

// formula: clauses mostly of two to four literals, now and then of fewer; some stand in one twice, or beside their opposites.
func (d *drawer) formula(vars, clauses int) api.Formula {
	f := form(vars)
	for range clauses {
		n := 2 + d.Intn(3)
		switch d.Intn(100) {
		case 0:
			n = 0
		case 1, 2, 3, 4, 5:
			n = 1
		}
		var one []int
		for range n {
			one = append(one, d.literal(vars))
		}
		f.Clauses = append(f.Clauses, one)
	}
	return f
}

// hard: a formula of three literals a clause, with few models or none.
func (d *drawer) hard(vars int) api.Formula {
	f := form(vars)
	for range 4*vars + d.Intn(vars) {
		f.Clauses = append(f.Clauses, c(d.literal(vars), d.literal(vars), d.literal(vars)))
	}
	return f
}

// loose: one that leaves more of them.
func (d *drawer) loose(vars int) api.Formula {
	f := d.hard(vars)
	f.Clauses = f.Clauses[:1+d.Intn(2*vars)]
	return f
}

// config: one that is well shaped, without a bound; mostly with small numbers, so that there are restarts and clearings.
func (d *drawer) config() api.Config {
	count := func() int { return []int{1, 1, 2, 3, 7, api.MaxPace}[d.Intn(6)] }
	return api.Config{
		Base: count(), First: count(), Grow: count(),
		Decay:  []float64{0.5, math.Nextafter(0.5, 1), 0.75, 0.95, math.Nextafter(1, 0), 1}[d.Intn(6)],
		Phase:  1 + d.Intn(3),
		Budget: -1 - d.Intn(5),
	}
}

// configs: small and great numbers, each phase, the edges of Decay; without a bound.
func configs() []api.Config {
	out := []api.Config{solve.Usual()}
	for _, phase := range []int{api.PhaseFalse, api.PhaseTrue, api.PhaseKept} {
		for _, decay := range []float64{0.5, 0.9, 1} {
			for _, n := range [][3]int{{1, 1, 1}, {2, 3, 2}, {1, api.MaxPace, 1}, {3, 1, api.MaxPace}, {api.MaxPace, 1, 1}, {api.MaxPace, api.MaxPace, api.MaxPace}} {
				out = append(out, api.Config{Base: n[0], First: n[1], Grow: n[2], Decay: decay, Phase: phase, Budget: -1})
			}
		}
	}
	return out
}

// solved: what Solve answers of what is well shaped, held against P17.1.
func solved(t *testing.T, f api.Formula, config api.Config) api.Outcome {
	t.Helper()
	o, e := solve.Solve(f, config)
	if e != api.OK {
		t.Fatalf("Solve(%v, %v): error %d", f, config, e)
	}
	switch o.End {
	case api.Sat:
		if !cnf.Satisfies(f, o.Model) || len(o.Proof) != 0 {
			t.Fatalf("Solve(%v, %v) = %v", f, config, o)
		}
	case api.Unsat:
		if len(o.Model) != 0 {
			t.Fatalf("Solve(%v, %v): a model %v beside a proof", f, config, o.Model)
		}
		proves(t, f, o.Proof)
	case api.Out:
		if config.Budget < 0 || o.Conflicts != config.Budget || len(o.Model) != 0 || len(o.Proof) != 0 {
			t.Fatalf("Solve(%v, %v) = %v", f, config, o)
		}
	default:
		t.Fatalf("Solve(%v, %v): End %d", f, config, o.End)
	}
	if o.Conflicts < 0 {
		t.Fatalf("Solve(%v, %v): %d conflicts", f, config, o.Conflicts)
	}
	return o
}

// proves: forward takes each step as P17.1 asks, and accepts the whole with the last one.
func proves(t *testing.T, f api.Formula, proof []api.Step) {
	t.Helper()
	w, _ := forward.New(f)
	for k, s := range proof {
		kind, e, want := 0, api.OK, rup.Rup
		if s.Drop {
			kind, e = w.Drop(s.Lits)
			want = forward.Gone
		} else {
			kind, e = w.Add(s.Lits)
		}
		if kind != want || e != api.OK {
			t.Fatalf("step %d of %v: %d, error %d; formula %v", k, proof, kind, e, f)
		}
		if w.Done() != (k == len(proof)-1) {
			t.Fatalf("the proof %v doesn't end with step %d; formula %v", proof, k, f)
		}
	}
	if r, e := forward.Check(f, proof); e != api.OK || r != (api.Report{Code: api.Accepted, At: len(proof) - 1}) {
		t.Fatalf("Check(%v, %v) = %v, %d", f, proof, r, e)
	}
}

// ends: the End is that.
func ends(t *testing.T, f api.Formula, config api.Config, want int) api.Outcome {
	t.Helper()
	o := solved(t, f, config)
	if o.End != want {
		t.Fatalf("Solve(%v, %v): End %d, wanted %d", f, config, o.End, want)
	}
	return o
}

// satisfiable: does some model satisfy the formula, found by going through all?
func satisfiable(f api.Formula) bool {
	for range cnf.Models(f) {
		return true
	}
	return false
}

// endOf: how a search without a bound has to end.
func endOf(f api.Formula) int {
	if satisfiable(f) {
		return api.Sat
	}
	return api.Unsat
}

func sameStep(a, b api.Step) bool { return a.Drop == b.Drop && slices.Equal(a.Lits, b.Lits) }

func same(a, b api.Outcome) bool {
	return a.End == b.End && a.Conflicts == b.Conflicts && slices.Equal(a.Model, b.Model) && slices.EqualFunc(a.Proof, b.Proof, sameStep)
}

// bound: 4 times 9^n.
func bound(n int) int {
	out := 4
	for range n {
		out *= 9
	}
	return out
}

// pairs: all formulas of two variables whose clauses are some of the nine without a literal beside its opposite, each once.
func pairs() []api.Formula {
	every := [][]int{c(), c(1), c(-1), c(2), c(-2), c(1, 2), c(1, -2), c(-1, 2), c(-1, -2)}
	var out []api.Formula
	for bits := range 1 << len(every) {
		f := form(2)
		for k, one := range every {
			if bits>>k&1 == 1 {
				f.Clauses = append(f.Clauses, one)
			}
		}
		out = append(out, f)
	}
	return out
}

// badFormulas aren't well shaped.
func badFormulas() []api.Formula {
	return []api.Formula{
		form(-1), form(api.MaxVar + 1), form(math.MinInt), form(math.MaxInt), form(-1, c()),
		form(0, c(1)), form(1, c(2)), form(2, c(1, -3)), form(2, c(1), c(3, 1)), form(2, c(0)), form(2, c(1, 0, 2)), form(2, c(), c(-3)),
		form(api.MaxVar, c(api.MaxVar+1)), form(2, c(math.MinInt)), form(2, c(1), c(-math.MaxInt)), form(2, c(math.MaxInt)),
	}
}

// badConfigs: each is the usual one but for one thing that isn't well shaped.
func badConfigs() []api.Config {
	var out []api.Config
	but := func(change func(x *api.Config)) {
		x := solve.Usual()
		change(&x)
		out = append(out, x)
	}
	for _, n := range []int{0, -1, api.MaxPace + 1, math.MinInt, math.MaxInt} {
		but(func(x *api.Config) { x.Base = n })
		but(func(x *api.Config) { x.First = n })
		but(func(x *api.Config) { x.Grow = n })
	}
	for _, d := range []float64{math.Nextafter(0.5, 0), math.Nextafter(1, 2), 0, -0.7, 2, math.NaN(), math.Inf(1), math.Inf(-1)} {
		but(func(x *api.Config) { x.Decay = d })
	}
	for _, p := range []int{0, 4, -1, math.MinInt, math.MaxInt} {
		but(func(x *api.Config) { x.Phase = p })
	}
	return append(out, api.Config{}, api.Config{Budget: 5})
}
