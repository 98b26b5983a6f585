package trim_test

import (
	"fmt"
	"math"
	"slices"
	"testing"

	"depot/api"
	"depot/cnf"
	"depot/lits"
	"depot/rup"
	"depot/trim"
	"depot/unit"
)

// beyond is the first number that is no variable.
const beyond = api.MaxVar + 1

// far are numbers that are no literals.
var far = []int{0, beyond, -beyond, 2 * api.MaxVar, 1 << 24, math.MaxInt32, math.MinInt32, 1 << 40, math.MaxInt, math.MinInt, math.MinInt + 1}

// form: a formula of so many variables and these clauses.
func form(vars int, clauses ...[]int) api.Formula {
	return api.Formula{Vars: vars, Clauses: clauses}
}

// over: a formula of these clauses, over as many variables as stand in them.
func over(clauses ...[]int) api.Formula {
	f := form(0, clauses...)
	for _, d := range clauses {
		for _, l := range d {
			f.Vars = max(f.Vars, l, -l)
		}
	}
	return f
}

// c: a clause.
func c(literals ...int) []int {
	return literals
}

// add: a step that adds a clause.
func add(literals ...int) api.Step {
	return api.Step{Lits: literals}
}

// drop: a step that takes a clause out.
func drop(literals ...int) api.Step {
	return api.Step{Drop: true, Lits: literals}
}

// row: a list of steps.
func row(steps ...api.Step) []api.Step {
	return steps
}

// cut: a value as a test tells it, the long ones cut.
func cut(v any) string {
	s := fmt.Sprint(v)
	if len(s) > 600 {
		return s[:600] + ".."
	}
	return s
}

// misshaped: formulas that aren't well shaped.
func misshaped() []api.Formula {
	out := []api.Formula{form(-1), form(-1, c()), form(math.MinInt), form(beyond), form(math.MaxInt, c(1)), form(0, c(1)), form(0, c(), c(-1)), form(2, c(1), c(-1), c(2, 3)), form(2, c(-3, 1))}
	for _, l := range far {
		out = append(out, form(api.MaxVar, c(l)), form(3, c(1), c(2, l)), form(3, c(l, 1), c()))
	}
	return out
}

// follows: does a clause follow from others, by the chapter's words?
func follows(clauses [][]int, clause []int) bool {
	var facts []int
	for _, l := range clause {
		facts = append(facts, -l)
	}
	_, clash, _ := unit.Close(form(api.MaxVar, clauses...), facts)
	return clash
}

// holds: does a list of additions hold over clauses, by the chapter's words?
func holds(clauses [][]int, additions []api.Step) bool {
	if len(additions) == 0 || len(additions[len(additions)-1].Lits) > 0 {
		return false
	}
	clauses = slices.Clone(clauses)
	for _, step := range additions {
		if !follows(clauses, step.Lits) {
			return false
		}
		clauses = append(clauses, step.Lits)
	}
	return true
}

// good: is a list of steps good for f, by the chapter's words?
func good(f api.Formula, steps []api.Step) bool {
	var additions []api.Step
	for _, step := range steps {
		if step.Drop {
			continue
		}
		additions = append(additions, step)
		if len(step.Lits) == 0 {
			return holds(f.Clauses, additions)
		}
	}
	return false
}

// refusal: why Trim is to refuse.
func refusal(f api.Formula, steps []api.Step) api.Errno {
	if !cnf.Formed(f) || slices.ContainsFunc(steps, func(step api.Step) bool { return !lits.Sound(step.Lits) }) {
		return api.ErrShape
	}
	if !good(f, steps) {
		return api.ErrRefused
	}
	return api.OK
}

// but: a list without the element at a place.
func but[E any](list []E, at int) []E {
	return slices.Delete(slices.Clone(list), at, at+1)
}

// pick: the clauses of these numbers.
func pick(f api.Formula, core []int) [][]int {
	var out [][]int
	for _, number := range core {
		out = append(out, f.Clauses[number])
	}
	return out
}

// rises: is each number above the one ahead, and one of n numbers from 0 on?
func rises(core []int, n int) bool {
	last := -1
	for _, number := range core {
		if number <= last || number >= n {
			return false
		}
		last = number
	}
	return true
}

// left: is a what is left of b, if some steps are left out? All ways to leave some out are tried.
func left(a, b []api.Step) bool {
	if len(b) == 0 {
		return len(a) == 0
	}
	if left(a, b[1:]) {
		return true
	}
	return len(a) > 0 && a[0].Drop == b[0].Drop && slices.Equal(a[0].Lits, b[0].Lits) && left(a[1:], b[1:])
}

// trims: Trim answers what P12.1 asks for: the error, or a core and a proof that are enough, none of it too many. It tells both.
func trims(t *testing.T, f api.Formula, steps []api.Step) ([]int, []api.Step) {
	t.Helper()
	core, proof, e := trim.Trim(f, steps)
	if want := refusal(f, steps); e != want {
		t.Fatalf("Trim(%s, %s): error %d, wanted %d", cut(f), cut(steps), e, want)
	}
	if e != api.OK {
		if len(core) > 0 || len(proof) > 0 {
			t.Fatalf("Trim(%s, %s) = %s, %s beside the error %d", cut(f), cut(steps), cut(core), cut(proof), e)
		}
		return nil, nil
	}
	enough(t, f, steps, core, proof)
	noneTooMany(t, f, core, proof)
	return core, proof
}

// enough: the core rises, the proof stands in the steps, and holds over the core.
func enough(t *testing.T, f api.Formula, steps []api.Step, core []int, proof []api.Step) {
	t.Helper()
	what := func() string { return "Trim(" + cut(f) + ", " + cut(steps) + ") = " + cut(core) + ", " + cut(proof) }
	if !rises(core, len(f.Clauses)) {
		t.Fatalf("%s: the core doesn't rise", what())
	}
	if slices.ContainsFunc(proof, func(step api.Step) bool { return step.Drop }) || !trim.Within(proof, steps) {
		t.Fatalf("%s: the proof doesn't stand in the steps", what())
	}
	g, e := trim.Only(f, core)
	if e != api.OK || !holds(g.Clauses, proof) {
		t.Fatalf("%s: the proof doesn't hold over the core, error %d", what(), e)
	}
}

// noneTooMany: without any one number of the core, or any one step but the last, the rest doesn't hold.
func noneTooMany(t *testing.T, f api.Formula, core []int, proof []api.Step) {
	t.Helper()
	clauses := pick(f, core)
	for k, number := range core {
		if holds(but(clauses, k), proof) {
			t.Fatalf("core %v, proof %s of %s: %d can be left out of the core", core, cut(proof), cut(f), number)
		}
	}
	for k := range proof[:len(proof)-1] {
		if holds(clauses, but(proof, k)) {
			t.Fatalf("core %v, proof %s of %s: step %d can be left out", core, cut(proof), cut(f), k)
		}
	}
}

// drawer draws things by a rule of its own, so that they are the same at every run.
type drawer struct{ state uint64 }

func drawn(seed uint64) *drawer { return &drawer{seed*2654435761 + 12345} }

// Intn: a number from 0 to n - 1.
func (d *drawer) Intn(n int) int {
	d.state = d.state*6364136223846793005 + 1442695040888963407
	return int(d.state>>33) % n
}

// list: so many literals of the variables 1 to vars, some of them twice.
func (d *drawer) list(vars, n int) []int {
	var out []int
	for range n {
		out = append(out, lits.At(d.Intn(2*vars)))
	}
	return out
}

// three: literals of three different variables.
func (d *drawer) three(vars int) []int {
	for {
		out := d.list(vars, 3)
		if lits.Var(out[0]) != lits.Var(out[1]) && lits.Var(out[1]) != lits.Var(out[2]) && lits.Var(out[2]) != lits.Var(out[0]) {
			return out
		}
	}
}

// shuffled: a list in another order.
func shuffled[E any](d *drawer, list []E) []E {
	out := slices.Clone(list)
	for k := len(out) - 1; k > 0; k-- {
		j := d.Intn(k + 1)
		out[k], out[j] = out[j], out[k]
	}
	return out
}

// drawnProof: a formula without a model, and steps that are good for it, by splitting on one variable behind the other.
func (d *drawer) drawnProof() (api.Formula, []api.Step) {
	for {
		vars := 5 + d.Intn(6)
		f := form(vars)
		for range 5 * vars {
			f.Clauses = append(f.Clauses, d.three(vars))
		}
		if n, _ := cnf.Count(f); n == 0 {
			return f, split(f, nil)
		}
	}
}

// split: steps at whose end the clause of a path's opposites is added; the two by which it follows are taken out behind it.
func split(f api.Formula, path []int) []api.Step {
	opposites := func(path ...int) []int {
		var out []int
		for _, l := range path {
			out = append(out, -l)
		}
		return out
	}
	if _, clash, _ := unit.Close(f, path); clash {
		return row(add(opposites(path...)...))
	}
	next := len(path) + 1
	yes, no := append(slices.Clone(path), next), append(slices.Clone(path), -next)
	out := append(split(f, yes), split(f, no)...)
	out = append(out, add(opposites(path...)...))
	if len(path) > 0 {
		out = append(out, drop(opposites(yes...)...), drop(opposites(no...)...))
	}
	return out
}

// richProof: a formula without a model in which much is needless: clauses twice, short ones and long ones; and steps that are good for it, with many additions that follow and that nobody asked for, drops, and more behind the end.
func (d *drawer) richProof() (api.Formula, []api.Step) {
	f, proof := d.drawnProof()
	for range d.Intn(8) {
		f.Clauses = append(f.Clauses, shuffled(d, append(f.Clauses[d.Intn(len(f.Clauses))], d.list(f.Vars, d.Intn(2))...)))
	}
	f.Clauses = shuffled(d, f.Clauses)
	have := slices.Clone(f.Clauses)
	var out []api.Step
	try := func(clause []int) {
		if len(clause) > 0 && follows(have, clause) {
			out, have = append(out, add(clause...)), append(have, clause)
		}
	}
	for _, step := range proof {
		for range d.Intn(6) {
			try(d.list(f.Vars, 1+d.Intn(4)))
		}
		if d.Intn(4) == 0 {
			out = append(out, drop(d.list(f.Vars+3, d.Intn(4))...))
		}
		if d.Intn(6) == 0 {
			try(append(d.list(f.Vars+5, 2), f.Vars+5, -f.Vars-5))
		}
		out = append(out, step)
		if !step.Drop {
			have = append(have, step.Lits)
		}
	}
	for range d.Intn(3) {
		out = append(out, api.Step{Drop: d.Intn(2) == 0, Lits: d.list(f.Vars+5, d.Intn(3))})
	}
	return f, out
}

// spoilt: steps with something changed.
func (d *drawer) spoilt(f api.Formula, steps []api.Step) []api.Step {
	out := slices.Clone(steps)
	at, other := d.Intn(len(out)), d.Intn(len(out))
	switch d.Intn(7) {
	case 0:
		return slices.Delete(out, at, at+1)
	case 1:
		return slices.Insert(out, at, api.Step{Drop: d.Intn(3) == 0, Lits: d.list(f.Vars, d.Intn(4))})
	case 2:
		out[at].Lits = d.list(f.Vars, d.Intn(4))
	case 3:
		out[at], out[other] = out[other], out[at]
	case 4:
		out[at].Drop = !out[at].Drop
	case 5:
		out[at].Lits = append(slices.Clone(out[at].Lits), far[d.Intn(len(far))])
	default:
		return out[:at]
	}
	return out
}

// The plain words of this file agree with rup, of which the chapter's word 'follows' speaks with the same closing.
func TestPlainFollows(t *testing.T) {
	for seed := range uint64(300) {
		draw := drawn(seed)
		f := form(6)
		for range draw.Intn(15) {
			f.Clauses = append(f.Clauses, draw.list(6, draw.Intn(4)))
		}
		clause := draw.list(7, draw.Intn(4))
		if yes, _ := rup.Follows(f, clause); yes != follows(f.Clauses, clause) {
			t.Errorf("%v follows from %v: %v", clause, f, !yes)
		}
	}
}
