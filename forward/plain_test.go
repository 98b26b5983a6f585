package forward_test

import (
	"fmt"
	"math"
	"slices"
	"testing"

	"depot/api"
	"depot/cnf"
	"depot/forward"
	"depot/lits"
	"depot/rup"
	"depot/unit"
)

// beyond is the first number that is no variable.
const beyond = api.MaxVar + 1

// far are numbers that are no literals.
var far = []int{0, beyond, -beyond, 2 * api.MaxVar, 1 << 24, 1<<24 + 1, math.MaxInt32, math.MinInt32, 1 << 40, math.MaxInt, math.MinInt, math.MinInt + 1}

// form: a formula of so many variables and these clauses.
func form(vars int, clauses ...[]int) api.Formula {
	return api.Formula{Vars: vars, Clauses: clauses}
}

// over: a formula of these clauses, over as many variables as stand in them.
func over(clauses ...[]int) api.Formula {
	f := form(0, clauses...)
	for _, d := range clauses {
		for _, l := range d {
			f.Vars = max(f.Vars, l, -l)
		}
	}
	return f
}

// c: a clause.
func c(literals ...int) []int {
	return literals
}

// add: a step that adds a clause.
func add(literals ...int) api.Step {
	return api.Step{Lits: literals}
}

// drop: a step that takes a clause out.
func drop(literals ...int) api.Step {
	return api.Step{Drop: true, Lits: literals}
}

// cut: a value as a test tells it, the long ones cut.
func cut(v any) string {
	s := fmt.Sprint(v)
	if len(s) > 400 {
		return s[:400] + ".."
	}
	return s
}

// misshaped: formulas that aren't well shaped.
func misshaped() []api.Formula {
	out := []api.Formula{form(-1), form(-1, c()), form(math.MinInt), form(beyond), form(math.MaxInt, c(1)), form(0, c(1)), form(0, c(), c(-1)), form(2, c(1), c(-1), c(2, 3)), form(2, c(-3, 1))}
	for _, l := range far {
		out = append(out, form(api.MaxVar, c(l)), form(3, c(1), c(2, l)), form(3, c(l, 1), c()))
	}
	return out
}

// plain is a Forward by the chapter's words: each question is asked anew of all clauses, which stand in a list.
type plain struct {
	clauses [][]int
	done    bool
}

// formula: the clauses, over enough variables.
func (p *plain) formula() api.Formula {
	return over(p.clauses...)
}

func (p *plain) add(clause []int) (int, api.Errno) {
	if !lits.Sound(clause) {
		return 0, api.ErrShape
	}
	if p.done {
		return 0, api.ErrTurn
	}
	kind, _ := rup.Kind(p.formula(), clause)
	if kind != rup.None {
		p.clauses = append(p.clauses, slices.Clone(clause))
	}
	if kind == rup.Rup && len(clause) == 0 {
		p.done = true
	}
	return kind, api.OK
}

func (p *plain) drop(clause []int) (int, api.Errno) {
	if !lits.Sound(clause) {
		return 0, api.ErrShape
	}
	if p.done {
		return 0, api.ErrTurn
	}
	at := slices.IndexFunc(p.clauses, func(d []int) bool { return lits.Same(clause, d) })
	if at < 0 {
		return forward.Missing, api.OK
	}
	closure, clash := p.units()
	if clash || kept(closure, clause) {
		return forward.Kept, api.OK
	}
	p.clauses = slices.Delete(p.clauses, at, at+1)
	return forward.Gone, api.OK
}

// kept: does one literal of a clause stand in the closure, and the opposite of each other one?
func kept(closure, clause []int) bool {
	for _, one := range clause {
		if !slices.Contains(closure, one) {
			continue
		}
		if !slices.ContainsFunc(clause, func(l int) bool { return l != one && !slices.Contains(closure, -l) }) {
			return true
		}
	}
	return false
}

// list: what Clauses is to answer.
func (p *plain) list() [][]int {
	var out [][]int
	for _, d := range p.clauses {
		out = append(out, lits.Tidy(d))
	}
	slices.SortFunc(out, func(a, b []int) int {
		return slices.CompareFunc(a, b, func(x, y int) int { return lits.Index(x) - lits.Index(y) })
	})
	return out
}

func (p *plain) units() ([]int, bool) {
	closure, clash, _ := unit.Close(p.formula(), nil)
	return closure, clash
}

// take: what a step of a check leads to; 0, if it goes on.
func (p *plain) take(step api.Step) int {
	if step.Drop {
		what, e := p.drop(step.Lits)
		switch {
		case e == api.ErrShape:
			return api.Unsound
		case what == forward.Missing:
			return api.Absent
		}
		return 0
	}
	kind, e := p.add(step.Lits)
	switch {
	case e == api.ErrShape:
		return api.Unsound
	case kind == rup.None:
		return api.Refused
	case p.done:
		return api.Accepted
	}
	return 0
}

// byWords: what Check is to answer.
func byWords(f api.Formula, steps []api.Step) (api.Report, api.Errno) {
	if !cnf.Formed(f) {
		return api.Report{}, api.ErrShape
	}
	p := &plain{clauses: slices.Clone(f.Clauses)}
	for at, step := range steps {
		if code := p.take(step); code != 0 {
			return api.Report{Code: code, At: at}, api.OK
		}
	}
	return api.Report{Code: api.Short, At: len(steps)}, api.OK
}

// made: a Forward of a formula.
func made(t *testing.T, f api.Formula) *forward.Forward {
	t.Helper()
	w, e := forward.New(f)
	if w == nil || e != api.OK {
		t.Fatalf("New(%s): error %d", cut(f), e)
	}
	return w
}

// pairOf: a Forward of a formula, and a plain one.
func pairOf(t *testing.T, f api.Formula) (*forward.Forward, *plain) {
	t.Helper()
	return made(t, f), &plain{clauses: slices.Clone(f.Clauses)}
}

// on takes a step of a Forward: what it answered.
func on(w *forward.Forward, step api.Step) (int, api.Errno) {
	if step.Drop {
		return w.Drop(step.Lits)
	}
	return w.Add(step.Lits)
}

// onPlain: likewise, of a plain one.
func onPlain(p *plain, step api.Step) (int, api.Errno) {
	if step.Drop {
		return p.drop(step.Lits)
	}
	return p.add(step.Lits)
}

// both takes a step of both, which are to answer the same, and all questions alike then.
func both(t *testing.T, w *forward.Forward, p *plain, step api.Step) (int, api.Errno) {
	t.Helper()
	before := p.list()
	got, e := on(w, step)
	want, wanted := onPlain(p, step)
	if got != want || e != wanted {
		t.Fatalf("%v of %s: %d, error %d; wanted %d, error %d", step, cut(before), got, e, want, wanted)
	}
	holds(t, w, p)
	return got, e
}

// holds: the Forward answers all questions as the plain one does.
func holds(t *testing.T, w *forward.Forward, p *plain) {
	t.Helper()
	if got, want := w.Clauses(), p.list(); !slices.EqualFunc(got, want, slices.Equal[[]int]) {
		t.Fatalf("Clauses = %s, wanted %s", cut(got), cut(want))
	}
	got, clash := w.Units()
	if want, wanted := p.units(); clash != wanted || !slices.Equal(got, want) {
		t.Fatalf("Units = %s, %v, wanted %s, %v, of %s", cut(got), clash, cut(want), wanted, cut(p.clauses))
	}
	if w.Done() != p.done {
		t.Fatalf("Done = %v, of %s", w.Done(), cut(p.clauses))
	}
}

// adds: Add answers that.
func adds(t *testing.T, w *forward.Forward, clause []int, want int) {
	t.Helper()
	if got, e := w.Add(clause); got != want || e != api.OK {
		t.Errorf("Add(%s) = %d, error %d, wanted %d", cut(clause), got, e, want)
	}
}

// drops: Drop answers that.
func drops(t *testing.T, w *forward.Forward, clause []int, want int) {
	t.Helper()
	if got, e := w.Drop(clause); got != want || e != api.OK {
		t.Errorf("Drop(%s) = %d, error %d, wanted %d", cut(clause), got, e, want)
	}
}

// refuses: Add and Drop answer an error, and nothing else.
func refuses(t *testing.T, w *forward.Forward, clause []int, want api.Errno) {
	t.Helper()
	if got, e := w.Add(clause); got != 0 || e != want {
		t.Errorf("Add(%s) = %d, error %d, wanted error %d", cut(clause), got, e, want)
	}
	if got, e := w.Drop(clause); got != 0 || e != want {
		t.Errorf("Drop(%s) = %d, error %d, wanted error %d", cut(clause), got, e, want)
	}
}

// has: Clauses answers that.
func has(t *testing.T, w *forward.Forward, want ...[]int) {
	t.Helper()
	if got := w.Clauses(); !slices.EqualFunc(got, want, slices.Equal[[]int]) {
		t.Errorf("Clauses = %s, wanted %s", cut(got), cut(want))
	}
}

// knows: Units answers that closure.
func knows(t *testing.T, w *forward.Forward, want ...int) {
	t.Helper()
	if got, clash := w.Units(); clash || !slices.Equal(got, want) {
		t.Errorf("Units = %s, %v, wanted %s", cut(got), clash, cut(want))
	}
}

// clashes: Units answers a clash.
func clashes(t *testing.T, w *forward.Forward) {
	t.Helper()
	if got, clash := w.Units(); !clash || len(got) > 0 {
		t.Errorf("Units = %s, %v, wanted a clash", cut(got), clash)
	}
}

// done: Done answers that.
func done(t *testing.T, w *forward.Forward, want bool) {
	t.Helper()
	if w.Done() != want {
		t.Errorf("Done = %v", w.Done())
	}
}

// drawer draws things by a rule of its own, so that they are the same at every run.
type drawer struct{ state uint64 }

func drawn(seed uint64) *drawer { return &drawer{seed*2654435761 + 12345} }

// Intn: a number from 0 to n - 1.
func (d *drawer) Intn(n int) int {
	d.state = d.state*6364136223846793005 + 1442695040888963407
	return int(d.state>>33) % n
}

// list: so many literals of the variables 1 to vars, some of them twice.
func (d *drawer) list(vars, n int) []int {
	var out []int
	for range n {
		out = append(out, lits.At(d.Intn(2*vars)))
	}
	return out
}

// clause: mostly of two to four literals, seldom of fewer.
func (d *drawer) clause(vars int) []int {
	n := 2 + d.Intn(3)
	switch d.Intn(60) {
	case 0:
		n = 0
	case 1, 2, 3:
		n = 1
	}
	return d.list(vars, n)
}

// formula: of so many variables, and up to so many clauses, none of them empty.
func (d *drawer) formula(vars, most int) api.Formula {
	f := form(vars)
	for range d.Intn(most + 1) {
		clause := d.clause(vars)
		if len(clause) == 0 {
			clause = d.list(vars, 3)
		}
		f.Clauses = append(f.Clauses, clause)
	}
	return f
}

// step: an addition, or a drop that is mostly of a clause among those handed in, written in some way; seldom it holds what is no literal.
func (d *drawer) step(vars int, clauses [][]int) api.Step {
	switch n := d.Intn(40); {
	case n == 0:
		return api.Step{Drop: d.Intn(2) == 0, Lits: append(d.clause(vars), far[d.Intn(len(far))])}
	case n == 1:
		return drop(d.clause(vars)...)
	case n == 2:
		return add()
	case n < 20 && len(clauses) > 0:
		return drop(d.shuffled(clauses[d.Intn(len(clauses))], d.Intn(2) == 0)...)
	case n < 23 && len(clauses) > 0:
		return add(d.shuffled(clauses[d.Intn(len(clauses))], true)...)
	}
	return add(d.clause(vars + d.Intn(4))...)
}

// shuffled: the literals in another order, some of them several times.
func (d *drawer) shuffled(list []int, twice bool) []int {
	out := slices.Clone(list)
	if twice && len(list) > 0 {
		out = append(out, list[d.Intn(len(list))], list[d.Intn(len(list))])
	}
	for k := len(out) - 1; k > 0; k-- {
		j := d.Intn(k + 1)
		out[k], out[j] = out[j], out[k]
	}
	return out
}

// drawnProof: a formula without a model, and an accepted proof of it, by splitting on one variable behind the other; each of its additions is rup.Rup.
func (d *drawer) drawnProof() (api.Formula, []api.Step) {
	for {
		vars := 4 + d.Intn(5)
		f := form(vars)
		for range 6 * vars {
			f.Clauses = append(f.Clauses, d.three(vars))
		}
		if n, _ := cnf.Count(f); n == 0 {
			return f, split(f, nil)
		}
	}
}

// three: literals of three different variables.
func (d *drawer) three(vars int) []int {
	for {
		out := d.list(vars, 3)
		if lits.Var(out[0]) != lits.Var(out[1]) && lits.Var(out[1]) != lits.Var(out[2]) && lits.Var(out[2]) != lits.Var(out[0]) {
			return out
		}
	}
}

// split: steps at whose end the clause of a path's opposites is added; the two by which it follows are taken out behind it.
func split(f api.Formula, path []int) []api.Step {
	opposites := func(path ...int) []int {
		var out []int
		for _, l := range path {
			out = append(out, -l)
		}
		return out
	}
	if _, clash, _ := unit.Close(f, path); clash {
		return []api.Step{add(opposites(path...)...)}
	}
	next := len(path) + 1
	yes, no := append(slices.Clone(path), next), append(slices.Clone(path), -next)
	out := append(split(f, yes), split(f, no)...)
	out = append(out, add(opposites(path...)...))
	if len(path) > 0 {
		out = append(out, drop(opposites(yes...)...), drop(opposites(no...)...))
	}
	return out
}
