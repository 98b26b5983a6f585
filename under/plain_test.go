package under_test

import (
	"fmt"
	"math"
	"slices"
	"testing"

	"depot/api"
	"depot/cnf"
	"depot/forward"
	"depot/lits"
	"depot/rup"
	"depot/solve"
	"depot/under"
)

// form: a formula of so many variables and these clauses.
func form(vars int, clauses ...[]int) api.Formula {
	return api.Formula{Vars: vars, Clauses: clauses}
}

// c: a clause, or other literals.
func c(literals ...int) []int { return literals }

// add: a step that adds a clause; drop: one that takes it out.
func add(literals ...int) api.Step { return api.Step{Lits: literals} }

func drop(literals ...int) api.Step { return api.Step{Drop: true, Lits: literals} }

// none is a formula of two variables that no model satisfies, and that takes a decision to be seen.
func none() api.Formula { return form(2, c(1, 2), c(-1, 2), c(1, -2), c(-1, -2)) }

// pigeons: one more than holes, of which each wants one for itself.
func pigeons(holes int) api.Formula {
	in := func(p, h int) int { return holes*p + h + 1 }
	f := form(holes * (holes + 1))
	for p := range holes + 1 {
		var some []int
		for h := range holes {
			some = append(some, in(p, h))
			for q := range p {
				f.Clauses = append(f.Clauses, c(-in(p, h), -in(q, h)))
			}
		}
		f.Clauses = append(f.Clauses, some)
	}
	return f
}

// ifAll: the formula whose clauses hold only where all of so many further variables are true; and these variables.
func ifAll(f api.Formula, further int) (api.Formula, []int) {
	out := form(f.Vars + further)
	var keys []int
	for k := range further {
		keys = append(keys, f.Vars+1+k)
	}
	for k, d := range f.Clauses {
		out.Clauses = append(out.Clauses, append(slices.Clone(d), -keys[k%further]))
	}
	return out, keys
}

// drawer draws numbers, the same ones each time.
type drawer struct{ state uint64 }

func drawn(seed uint64) *drawer { return &drawer{seed*2654435761 + 12345} }

// Intn: a number from 0 to n - 1.
func (d *drawer) Intn(n int) int {
	d.state = d.state*6364136223846793005 + 1442695040888963407
	return int(d.state>>33) % n
}

// literal: a literal of the variables 1 to vars.
func (d *drawer) literal(vars int) int {
	l := 1 + d.Intn(vars)
	if d.Intn(2) == 0 {
		return -l
	}
	return l
}

// literals: up to so many of them, some of them twice, now and then one beside its opposite.
func (d *drawer) literals(vars, most int) []int {
	var out []int
	for range d.Intn(most + 1) {
		l := d.literal(vars)
		if !slices.Contains(out, -l) || d.Intn(20) == 0 {
			out = append(out, l)
		}
	}
	return out
}

// formula: clauses mostly of two to four literals, now and then of fewer; some stand in one twice, or beside their opposites.
func (d *drawer) formula(vars, clauses int) api.Formula {
	f := form(vars)
	for range clauses {
		n := 2 + d.Intn(3)
		switch d.Intn(100) {
		case 0:
			n = 0
		case 1, 2, 3, 4, 5:
			n = 1
		}
		var one []int
		for range n {
			one = append(one, d.literal(vars))
		}
		f.Clauses = append(f.Clauses, one)
	}
	return f
}

// hard: a formula of three literals a clause, with few models or none.
func (d *drawer) hard(vars int) api.Formula {
	f := form(vars)
	for range 4*vars + d.Intn(vars) {
		f.Clauses = append(f.Clauses, c(d.literal(vars), d.literal(vars), d.literal(vars)))
	}
	return f
}

// loose: one that leaves more of them.
func (d *drawer) loose(vars int) api.Formula {
	f := d.hard(vars)
	f.Clauses = f.Clauses[:1+d.Intn(4*vars)]
	return f
}

// config: one that is well shaped, without a bound; mostly with small numbers, so that there are restarts and clearings.
func (d *drawer) config() api.Config {
	count := func() int { return []int{1, 1, 2, 3, 7, api.MaxPace}[d.Intn(6)] }
	return api.Config{
		Base: count(), First: count(), Grow: count(),
		Decay:  []float64{0.5, math.Nextafter(0.5, 1), 0.75, 0.95, math.Nextafter(1, 0), 1}[d.Intn(6)],
		Phase:  1 + d.Intn(3),
		Budget: -1 - d.Intn(5),
	}
}

// configs: small and great numbers, each phase, the edges of Decay; without a bound.
func configs() []api.Config {
	out := []api.Config{solve.Usual()}
	for _, phase := range []int{api.PhaseFalse, api.PhaseTrue, api.PhaseKept} {
		for _, decay := range []float64{0.5, 1} {
			for _, n := range [][3]int{{1, 1, 1}, {2, 3, 2}, {1, api.MaxPace, 1}, {api.MaxPace, 1, 1}} {
				out = append(out, api.Config{Base: n[0], First: n[1], Grow: n[2], Decay: decay, Phase: phase, Budget: -1})
			}
		}
	}
	return out
}

// once: the literals, each once, in the order in which they first stand.
func once(literals []int) []int {
	var out []int
	for _, l := range literals {
		if !slices.Contains(out, l) {
			out = append(out, l)
		}
	}
	return out
}

// isSome: are the literals some of others, each once, in the order in which they first stand there?
func isSome(some, literals []int) bool {
	places := []int{}
	for _, l := range some {
		places = append(places, slices.Index(literals, l))
	}
	return !slices.Contains(places, -1) && slices.IsSorted(places) && len(once(some)) == len(some)
}

// makes: does the model make the literal true?
func makes(m []bool, l int) bool { return m[max(l, -l)-1] == (l > 0) }

// makesAll: does it make all of them true?
func makesAll(m []bool, literals []int) bool {
	return !slices.ContainsFunc(literals, func(l int) bool { return !makes(m, l) })
}

// possible: does some model satisfy the formula and make the literals true, found by going through all?
func possible(f api.Formula, literals []int) bool {
	for m := range cnf.Models(f) {
		if makesAll(m, literals) {
			return true
		}
	}
	return false
}

// endOf: how a search without a bound has to end.
func endOf(f api.Formula, literals []int) int {
	if possible(f, literals) {
		return api.Sat
	}
	return api.Unsat
}

// bears: do the steps bear the ban out, by the chapter's words? What is wrong, if not.
func bears(f api.Formula, failed []int, proof []api.Step) string {
	w, _ := forward.New(f)
	for k, s := range proof {
		if s.Drop {
			if kind, e := w.Drop(s.Lits); e != api.OK || kind != forward.Gone && kind != forward.Kept {
				return fmt.Sprintf("the drop %d of %v: %d, error %d", k, s.Lits, kind, e)
			}
		} else if kind, e := w.Add(s.Lits); e != api.OK || kind != rup.Rup {
			return fmt.Sprintf("the addition %d of %v: %d, error %d", k, s.Lits, kind, e)
		}
	}
	var ban []int
	for _, l := range failed {
		ban = append(ban, -l)
	}
	if n := len(proof); n == 0 || proof[n-1].Drop || !lits.Same(proof[n-1].Lits, ban) {
		return fmt.Sprintf("%v isn't last", ban)
	}
	return ""
}

// answered: what Solve answers of what is well shaped, held against P18.1.
func answered(t *testing.T, f api.Formula, assume []int, config api.Config) (api.Outcome, []int) {
	t.Helper()
	o, failed, e := under.Solve(f, assume, config)
	wrong := ""
	switch {
	case e != api.OK:
		wrong = "an error"
	case o.Conflicts < 0 || f.Vars < 18 && o.Conflicts > bound(f.Vars):
		wrong = "the number of conflicts"
	case o.End == api.Sat:
		if len(failed) != 0 || len(o.Proof) != 0 || !cnf.Satisfies(f, o.Model) || !makesAll(o.Model, assume) {
			wrong = "the model, or something beside it"
		}
	case o.End == api.Unsat:
		wrong = bears(f, failed, o.Proof)
		if len(o.Model) != 0 || !isSome(failed, assume) {
			wrong = "what failed, or a model beside it"
		}
	case o.End == api.Out:
		if config.Budget < 0 || o.Conflicts != config.Budget || len(o.Model)+len(o.Proof)+len(failed) != 0 {
			wrong = "an end without an answer"
		}
	default:
		wrong = "the end"
	}
	if wrong != "" {
		t.Fatalf("Solve(%v, %v, %v) = %v, %v, %d: %s", f, assume, config, o, failed, e, wrong)
	}
	return o, failed
}

// ends: the End is that.
func ends(t *testing.T, f api.Formula, assume []int, config api.Config, want int) (api.Outcome, []int) {
	t.Helper()
	o, failed := answered(t, f, assume, config)
	if o.End != want {
		t.Fatalf("Solve(%v, %v, %v): End %d, wanted %d", f, assume, config, o.End, want)
	}
	return o, failed
}

func sameStep(a, b api.Step) bool { return a.Drop == b.Drop && slices.Equal(a.Lits, b.Lits) }

func same(a, b api.Outcome) bool {
	return a.End == b.End && a.Conflicts == b.Conflicts && slices.Equal(a.Model, b.Model) && slices.EqualFunc(a.Proof, b.Proof, sameStep)
}

// bound: 4 times 9^n.
func bound(n int) int {
	out := 4
	for range n {
		out *= 9
	}
	return out
}

// pairs: all formulas of two variables whose clauses are some of the nine without a literal beside its opposite, each once.
func pairs() []api.Formula {
	every := [][]int{c(), c(1), c(-1), c(2), c(-2), c(1, 2), c(1, -2), c(-1, 2), c(-1, -2)}
	var out []api.Formula
	for bits := range 1 << len(every) {
		f := form(2)
		for k, one := range every {
			if bits>>k&1 == 1 {
				f.Clauses = append(f.Clauses, one)
			}
		}
		out = append(out, f)
	}
	return out
}

// rows: all lists of up to so many of the literals of two variables.
func rows(most int) [][]int {
	out := [][]int{nil}
	for first := 0; most > 0; most-- {
		last := len(out)
		for _, row := range out[first:last] {
			for _, l := range c(1, -1, 2, -2) {
				out = append(out, append(slices.Clone(row), l))
			}
		}
		first = last
	}
	return out
}

// badFormulas aren't well shaped.
func badFormulas() []api.Formula {
	return []api.Formula{
		form(-1), form(api.MaxVar + 1), form(math.MinInt), form(math.MaxInt), form(-1, c()),
		form(0, c(1)), form(1, c(2)), form(2, c(1, -3)), form(2, c(1), c(3, 1)), form(2, c(0)), form(2, c(1, 0, 2)), form(2, c(), c(-3)),
		form(api.MaxVar, c(api.MaxVar+1)), form(2, c(math.MinInt)), form(2, c(1), c(-math.MaxInt)), form(2, c(math.MaxInt)),
	}
}

// badConfigs: each is the usual one but for one thing that isn't well shaped.
func badConfigs() []api.Config {
	var out []api.Config
	but := func(change func(x *api.Config)) {
		x := solve.Usual()
		change(&x)
		out = append(out, x)
	}
	for _, n := range []int{0, -1, api.MaxPace + 1, math.MinInt, math.MaxInt} {
		but(func(x *api.Config) { x.Base = n })
		but(func(x *api.Config) { x.First = n })
		but(func(x *api.Config) { x.Grow = n })
	}
	for _, d := range []float64{math.Nextafter(0.5, 0), math.Nextafter(1, 2), 0, -0.7, 2, math.NaN(), math.Inf(1), math.Inf(-1)} {
		but(func(x *api.Config) { x.Decay = d })
	}
	for _, p := range []int{0, 4, -1, math.MinInt, math.MaxInt} {
		but(func(x *api.Config) { x.Phase = p })
	}
	return append(out, api.Config{}, api.Config{Budget: 5})
}
