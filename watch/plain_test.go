package watch_test

import (
	"math"
	"slices"
	"testing"

	"depot/api"
	"depot/lits"
	"depot/unit"
	"depot/watch"
)

// far are numbers that are literals of no Watch.
var far = []int{0, api.MaxVar + 1, -api.MaxVar - 1, 2 * api.MaxVar, math.MaxInt32, math.MinInt32, 1 << 40, -1 << 40, math.MaxInt, math.MaxInt - 1, math.MinInt, math.MinInt + 1}

// form: a formula of so many variables and these clauses.
func form(vars int, clauses ...[]int) api.Formula {
	return api.Formula{Vars: vars, Clauses: clauses}
}

// c: a clause, or a list of literals.
func c(literals ...int) []int {
	return literals
}

// item is a literal that is known, and the depth that it belongs to.
type item struct{ lit, depth int }

// plain is a Watch by the chapter's words: each Run closes all clauses anew.
type plain struct {
	f       api.Formula
	assumed []int
	known   []item
	rests   bool
	clashes bool
}

// lits: what is known, in the order in which it became so.
func (p *plain) lits() []int {
	var out []int
	for _, k := range p.known {
		out = append(out, k.lit)
	}
	return out
}

func (p *plain) has(l int) bool {
	return 1 <= l && l <= p.f.Vars || -p.f.Vars <= l && l <= -1
}

func (p *plain) add(clause []int) api.Errno {
	if slices.ContainsFunc(clause, func(l int) bool { return !p.has(l) }) {
		return api.ErrShape
	}
	p.f.Clauses = append(p.f.Clauses, slices.Clone(clause))
	p.rests = false
	return api.OK
}

func (p *plain) assume(l int) api.Errno {
	switch {
	case !p.has(l):
		return api.ErrShape
	case !p.rests:
		return api.ErrTurn
	case slices.Contains(p.lits(), l) || slices.Contains(p.lits(), -l):
		return api.ErrSet
	}
	p.assumed = append(p.assumed, l)
	p.known = append(p.known, item{l, len(p.assumed)})
	p.rests = false
	return api.OK
}

func (p *plain) run() bool {
	all, clash, _ := unit.Close(p.f, p.lits())
	for _, l := range all {
		if !slices.Contains(p.lits(), l) {
			p.known = append(p.known, item{l, len(p.assumed)})
		}
	}
	p.rests, p.clashes = !clash, clash
	return !clash
}

func (p *plain) undo() api.Errno {
	last := len(p.assumed)
	if last == 0 {
		return api.ErrTurn
	}
	p.known = slices.DeleteFunc(p.known, func(k item) bool { return k.depth == last })
	p.assumed = p.assumed[:last-1]
	p.rests = false
	return api.OK
}

// byIndex: the literals in the order 1, -1, 2, -2, ..
func byIndex(l []int) []int {
	out := slices.Clone(l)
	slices.SortFunc(out, func(a, b int) int { return lits.Index(a) - lits.Index(b) })
	return out
}

// made: a Watch of a formula.
func made(t *testing.T, f api.Formula) *watch.Watch {
	t.Helper()
	w, e := watch.New(f)
	if w == nil || e != api.OK {
		t.Fatalf("New(%v): error %d", f, e)
	}
	return w
}

// pairOf: a Watch of a formula, and a plain one.
func pairOf(t *testing.T, f api.Formula) (*watch.Watch, *plain) {
	t.Helper()
	return made(t, f), &plain{f: form(f.Vars, slices.Clone(f.Clauses)...)}
}

// knows: so deep, and that is known.
func knows(t *testing.T, w *watch.Watch, depth int, want ...int) {
	t.Helper()
	if got := w.Lits(); w.Depth() != depth || !slices.Equal(got, want) {
		t.Errorf("at the depth %d %v is known; wanted: at %d %v", w.Depth(), got, depth, want)
	}
}

// runs: Run answers that, and Clashes accordingly.
func runs(t *testing.T, w *watch.Watch, want bool) {
	t.Helper()
	if got := w.Run(); got != want || w.Clashes() == want {
		t.Errorf("Run = %v, Clashes = %v; wanted %v of Run", got, w.Clashes(), want)
	}
}

// ends: a call ended with that error.
func ends(t *testing.T, e, want api.Errno) {
	t.Helper()
	if e != want {
		t.Errorf("error %d, wanted %d", e, want)
	}
}

// holds: the Watch answers all questions as the plain one does.
func holds(t *testing.T, w *watch.Watch, p *plain) {
	t.Helper()
	if got := w.Depth(); got != len(p.assumed) {
		t.Fatalf("Depth = %d, wanted %d, behind %v", got, len(p.assumed), p.assumed)
	}
	if got, want := w.Lits(), byIndex(p.lits()); !slices.Equal(got, want) {
		t.Fatalf("Lits = %v, wanted %v, of %v assumed in %v", got, want, p.assumed, p.f)
	}
	if got := w.Clashes(); got != p.clashes {
		t.Fatalf("Clashes = %v, with %v assumed in %v", got, p.assumed, p.f)
	}
}

// The calls that may change a Watch.
const (
	run = iota
	assume
	undo
	add
)

// call is one of them, with its clause, or the one literal.
type call struct {
	kind int
	list []int
}

// on carries the call out; what Run answers is told as a number.
func (a call) on(w *watch.Watch) int {
	switch a.kind {
	case assume:
		return int(w.Assume(a.list[0]))
	case undo:
		return int(w.Undo())
	case add:
		return int(w.Add(a.list))
	}
	if w.Run() {
		return 1
	}
	return 0
}

// onPlain: likewise, of a plain one.
func (a call) onPlain(p *plain) int {
	switch a.kind {
	case assume:
		return int(p.assume(a.list[0]))
	case undo:
		return int(p.undo())
	case add:
		return int(p.add(a.list))
	}
	if p.run() {
		return 1
	}
	return 0
}

// both: the call of both answers the same, and they answer all questions alike then.
func (a call) both(t *testing.T, w *watch.Watch, p *plain) int {
	t.Helper()
	got, want := a.on(w), a.onPlain(p)
	if got != want {
		t.Fatalf("%v answers %d, wanted %d: %v assumed in %v", a, got, want, p.assumed, p.f)
	}
	holds(t, w, p)
	return got
}

// drawer draws things by a rule of its own, so that they are the same at every run.
type drawer struct{ state uint64 }

func drawn(seed uint64) *drawer { return &drawer{seed*2654435761 + 12345} }

// Intn: a number from 0 to n - 1.
func (d *drawer) Intn(n int) int {
	d.state = d.state*6364136223846793005 + 1442695040888963407
	return int(d.state>>33) % n
}

// literal: a literal of the variables 1 to vars.
func (d *drawer) literal(vars int) int {
	return lits.At(d.Intn(2 * vars))
}

// clause: mostly of two to four literals, now and then of fewer; some stand in it twice, or beside their opposites.
func (d *drawer) clause(vars int) []int {
	n := 2 + d.Intn(3)
	switch d.Intn(100) {
	case 0:
		n = 0
	case 1, 2, 3, 4:
		n = 1
	}
	var out []int
	for range n {
		out = append(out, d.literal(vars))
	}
	return out
}

// formula: of so many variables, and up to so many clauses.
func (d *drawer) formula(vars, most int) api.Formula {
	f := form(vars)
	for range d.Intn(most + 1) {
		f.Clauses = append(f.Clauses, d.clause(vars))
	}
	return f
}

// call: one that may change a Watch of so many variables; some are refused.
func (d *drawer) call(vars int) call {
	switch n := d.Intn(40); {
	case n < 16:
		return call{kind: run}
	case n < 28:
		return call{assume, c(d.literal(vars))}
	case n < 35:
		return call{kind: undo}
	case n < 38:
		return call{add, d.clause(vars)}
	}
	wrong := []int{0, vars + 1, -vars - 1, math.MinInt}[d.Intn(4)]
	if d.Intn(2) == 0 {
		return call{assume, c(wrong)}
	}
	return call{add, append(d.clause(vars), wrong)}
}
