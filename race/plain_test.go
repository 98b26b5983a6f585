package race_test

import (
	"math"
	"slices"
	"testing"

	"depot/api"
	"depot/race"
	"depot/solve"
)

// form: a formula of so many variables and these clauses.
func form(vars int, clauses ...[]int) api.Formula {
	return api.Formula{Vars: vars, Clauses: clauses}
}

// c: a clause.
func c(literals ...int) []int { return literals }

// none is a formula of two variables that no model satisfies, and that takes a decision to be seen.
func none() api.Formula { return form(2, c(1, 2), c(-1, 2), c(1, -2), c(-1, -2)) }

// pigeons: one more than holes, of which each wants one for itself.
func pigeons(holes int) api.Formula {
	in := func(p, h int) int { return holes*p + h + 1 }
	f := form(holes * (holes + 1))
	for p := range holes + 1 {
		var some []int
		for h := range holes {
			some = append(some, in(p, h))
			for q := range p {
				f.Clauses = append(f.Clauses, c(-in(p, h), -in(q, h)))
			}
		}
		f.Clauses = append(f.Clauses, some)
	}
	return f
}

// wayOut: the same where the variable 1, if it is true, satisfies all: found at once by who tries that first, else only behind all the pigeons.
func wayOut(holes int) api.Formula {
	f := pigeons(holes)
	out := form(f.Vars + 1)
	for _, d := range f.Clauses {
		moved := c(1)
		for _, l := range d {
			if l > 0 {
				moved = append(moved, l+1)
			} else {
				moved = append(moved, l-1)
			}
		}
		out.Clauses = append(out.Clauses, moved)
	}
	return out
}

// slow: a config that needs many conflicts for wayOut; quick: one that needs none.
func slow(budget int) api.Config {
	return api.Config{Base: 100, First: 2000, Grow: 300, Decay: 0.95, Phase: api.PhaseFalse, Budget: budget}
}

func quick(budget int) api.Config {
	return api.Config{Base: 100, First: 2000, Grow: 300, Decay: 0.95, Phase: api.PhaseTrue, Budget: budget}
}

// drawer draws numbers, the same ones each time.
type drawer struct{ state uint64 }

func drawn(seed uint64) *drawer { return &drawer{seed*2654435761 + 12345} }

// Intn: a number from 0 to n - 1.
func (d *drawer) Intn(n int) int {
	d.state = d.state*6364136223846793005 + 1442695040888963407
	return int(d.state>>33) % n
}

// literal: a literal of the variables 1 to vars.
func (d *drawer) literal(vars int) int {
	l := 1 + d.Intn(vars)
	if d.Intn(2) == 0 {
		return -l
	}
	return l
}

// hard: a formula of three literals a clause, with few models or none.
func (d *drawer) hard(vars int) api.Formula {
	f := form(vars)
	for range 4*vars + d.Intn(vars) {
		f.Clauses = append(f.Clauses, c(d.literal(vars), d.literal(vars), d.literal(vars)))
	}
	return f
}

// config: one that is formed; mostly with small numbers, so that there are restarts and clearings.
func (d *drawer) config(budget int) api.Config {
	count := func() int { return []int{1, 1, 2, 3, 7, api.MaxPace}[d.Intn(6)] }
	return api.Config{
		Base: count(), First: count(), Grow: count(),
		Decay:  []float64{0.5, math.Nextafter(0.5, 1), 0.75, 0.95, math.Nextafter(1, 0), 1}[d.Intn(6)],
		Phase:  1 + d.Intn(3),
		Budget: budget,
	}
}

// configs: up to so many of them, whose Budgets lie about what their searches need; few are without a bound.
func (d *drawer) configs(f api.Formula, most int) []api.Config {
	var out []api.Config
	for range 1 + d.Intn(most) {
		x := d.config(-1 - d.Intn(5))
		if d.Intn(12) > 0 {
			o, _ := solve.Solve(f, x)
			x.Budget = max(0, o.Conflicts+[]int{-o.Conflicts, -o.Conflicts / 2, -3, -2, -1, -1, -1, 0, 1, 1000000}[d.Intn(10)])
		}
		out = append(out, x)
	}
	return out
}

// oneByOne: the answer by the chapter's words, the searches made one behind the other.
func oneByOne(f api.Formula, l []api.Config) (int, api.Outcome) {
	for n, x := range l {
		if o, _ := solve.Solve(f, x); o.End != api.Out {
			return n, o
		}
	}
	return -1, api.Outcome{End: api.Out}
}

func sameStep(a, b api.Step) bool { return a.Drop == b.Drop && slices.Equal(a.Lits, b.Lits) }

func same(a, b api.Outcome) bool {
	return a.End == b.End && a.Conflicts == b.Conflicts && slices.Equal(a.Model, b.Model) && slices.EqualFunc(a.Proof, b.Proof, sameStep)
}

// answers: Race answers that.
func answers(t *testing.T, f api.Formula, l []api.Config, workers, who int, o api.Outcome) {
	t.Helper()
	if n, got, e := race.Race(f, l, workers); n != who || !same(got, o) || e != api.OK {
		t.Fatalf("Race(%v, %v, %d) = %d, %v, %d; wanted %d, %v", f, l, workers, n, got, e, who, o)
	}
}

// refuses: Race does, with that error.
func refuses(t *testing.T, f api.Formula, l []api.Config, workers int, want api.Errno) {
	t.Helper()
	if who, o, e := race.Race(f, l, workers); who != 0 || !same(o, api.Outcome{}) || e != want {
		t.Fatalf("Race(%v, %v, %d) = %d, %v, %d; wanted the error %d", f, l, workers, who, o, e, want)
	}
}

// crews: numbers of workers, at the edges and between.
func crews() []int { return []int{1, 2, 3, 5, 8, 63, 64} }

// noCrews: numbers that can't be meant.
func noCrews() []int { return []int{0, -1, 65, 66, 1000, math.MinInt, math.MaxInt} }

// badFormulas aren't well shaped.
func badFormulas() []api.Formula {
	return []api.Formula{
		form(-1), form(api.MaxVar + 1), form(math.MinInt), form(math.MaxInt),
		form(0, c(1)), form(1, c(2)), form(2, c(1), c(3, 1)), form(2, c(0)), form(2, c(1, 0, 2)), form(2, c(), c(-3)),
		form(api.MaxVar, c(api.MaxVar+1)), form(2, c(math.MinInt)), form(2, c(1), c(-math.MaxInt)), form(2, c(math.MaxInt)),
	}
}

// badConfigs: each is the usual one but for one thing by which it isn't formed.
func badConfigs() []api.Config {
	var out []api.Config
	but := func(change func(x *api.Config)) {
		x := solve.Usual()
		change(&x)
		out = append(out, x)
	}
	for _, n := range []int{0, -1, api.MaxPace + 1, math.MinInt, math.MaxInt} {
		but(func(x *api.Config) { x.Base = n })
		but(func(x *api.Config) { x.First = n })
		but(func(x *api.Config) { x.Grow = n })
	}
	for _, d := range []float64{math.Nextafter(0.5, 0), math.Nextafter(1, 2), 0, -0.7, 2, math.NaN(), math.Inf(1), math.Inf(-1)} {
		but(func(x *api.Config) { x.Decay = d })
	}
	for _, p := range []int{0, 4, -1, math.MinInt, math.MaxInt} {
		but(func(x *api.Config) { x.Phase = p })
	}
	return append(out, api.Config{}, api.Config{Budget: 5})
}
