package engine_test

import (
	"math"
	"slices"
	"testing"

	"depot/api"
	"depot/engine"
	"depot/forward"
	"depot/lits"
)

// ends: a call ended with that error.
func ends(t *testing.T, e, want api.Errno) {
	t.Helper()
	if e != want {
		t.Errorf("error %d, wanted %d", e, want)
	}
}

// spreads: Spread answers that.
func spreads(t *testing.T, g *engine.Engine, want bool) {
	t.Helper()
	if got := g.Spread(); got != want {
		t.Errorf("Spread = %v", got)
	}
}

// learns: Learn answers that clause and level.
func learns(t *testing.T, g *engine.Engine, want []int, level int) {
	t.Helper()
	if got, back, e := g.Learn(); e != api.OK || back != level || !slices.Equal(got, want) {
		t.Errorf("Learn = %v, %d, %d; wanted %v, %d, 0", got, back, e, want, level)
	}
}

// refusesLearn: Learn is not its turn, and answers nothing.
func refusesLearn(t *testing.T, g *engine.Engine) {
	t.Helper()
	if clause, back, e := g.Learn(); e != api.ErrTurn || back != 0 || len(clause) != 0 {
		t.Errorf("Learn = %v, %d, %d", clause, back, e)
	}
}

// enters: these are the entries, and the level is the last one's.
func enters(t *testing.T, g *engine.Engine, want ...api.Entry) {
	t.Helper()
	same := func(a, b api.Entry) bool {
		return a.Lit == b.Lit && a.Level == b.Level && lits.Same(a.Reason, b.Reason)
	}
	if got := g.Entries(); !slices.EqualFunc(got, want, same) {
		t.Errorf("Entries = %v, wanted %v", got, want)
	}
	level := 0
	if len(want) > 0 {
		level = want[len(want)-1].Level
	}
	if got := g.Level(); got != level {
		t.Errorf("Level = %d, wanted %d", got, level)
	}
}

// keeps: these are the learnts.
func keeps(t *testing.T, g *engine.Engine, want ...[]int) {
	t.Helper()
	if got := g.Learnts(); !slices.EqualFunc(got, want, slices.Equal[[]int]) {
		t.Errorf("Learnts = %v, wanted %v", got, want)
	}
}

// logs: these are the steps that were logged.
func logs(t *testing.T, g *engine.Engine, want ...api.Step) {
	t.Helper()
	if got := g.Log(); !slices.EqualFunc(got, want, sameStep) {
		t.Errorf("Log = %v, wanted %v", got, want)
	}
}

// models: Model answers these truths.
func models(t *testing.T, g *engine.Engine, want ...bool) {
	t.Helper()
	if got, ok := g.Model(); !ok || !slices.Equal(got, want) {
		t.Errorf("Model = %v, %v; wanted %v", got, ok, want)
	}
}

// noModel: Model answers nothing.
func noModel(t *testing.T, g *engine.Engine) {
	t.Helper()
	if got, ok := g.Model(); ok || len(got) != 0 {
		t.Errorf("Model = %v, %v", got, ok)
	}
}

// isDead: Dead answers that.
func isDead(t *testing.T, g *engine.Engine, want bool) {
	t.Helper()
	if g.Dead() != want {
		t.Errorf("Dead isn't %v", want)
	}
}

// down decides these literals, one behind the other, with a Spread ahead of each that comes to rest.
func down(t *testing.T, g *engine.Engine, literals ...int) {
	t.Helper()
	for _, l := range literals {
		spreads(t, g, true)
		ends(t, g.Decide(l), api.OK)
	}
}

// none is a formula of three variables that no model satisfies, and that takes a decision to be seen.
func none() api.Formula { return form(3, c(1, 2), c(1, -2), c(-1, 3), c(-1, -3)) }

// both is a formula of four variables in which 1 and 2 can't be together.
func both() api.Formula { return form(4, c(-1, -2, 3), c(-1, -2, -3)) }

// P16.1: a formula that isn't well shaped.
func TestNewRefuses(t *testing.T) {
	for _, f := range []api.Formula{
		form(-1), form(api.MaxVar + 1), form(math.MinInt), form(math.MaxInt),
		form(0, c(1)), form(2, c(1, -3)), form(2, c(1), c(3, 1)), form(2, c(0)), form(2, c(1, 0, 2)),
		form(api.MaxVar, c(api.MaxVar+1)), form(2, c(math.MinInt)), form(2, c(1), c(-math.MaxInt)),
		form(-1, c()),
	} {
		if g, e := engine.New(f); g != nil || e != api.ErrShape {
			t.Errorf("New(%v) = %v, %d", f, g, e)
		}
	}
}

// P16.1: what a new Engine has, and what it is not, whatever the formula.
func TestNew(t *testing.T) {
	for _, f := range []api.Formula{form(0), form(0, c()), form(3), none(), both(), form(2, c(1), c(2)), form(1, c(1), c(-1)), form(api.MaxVar, c(-api.MaxVar))} {
		g := made(t, f)
		enters(t, g)
		keeps(t, g)
		logs(t, g)
		noModel(t, g)
		isDead(t, g, false)
		// Not at rest:
		if f.Vars > 0 {
			ends(t, g.Decide(1), api.ErrTurn)
		}
		ends(t, g.Forget(0), api.ErrTurn)
		// Not in a clash, not dead:
		refusesLearn(t, g)
		ends(t, g.Restart(), api.OK)
		enters(t, g)
		logs(t, g)
	}
}

// The chapter's first example.
func TestExampleDead(t *testing.T) {
	g := made(t, none())
	ends(t, g.Decide(1), api.ErrTurn)
	spreads(t, g, true)
	enters(t, g)
	ends(t, g.Decide(4), api.ErrShape)
	ends(t, g.Decide(0), api.ErrShape)
	ends(t, g.Decide(-1), api.OK)
	enters(t, g, at(-1, 1))
	ends(t, g.Decide(2), api.ErrTurn)
	ends(t, g.Forget(0), api.ErrTurn)
	spreads(t, g, false)
	if got := g.Entries(); len(got) != 2 || !sameEntry(got[0], at(-1, 1)) || got[1].Level != 1 || lits.Var(got[1].Lit) != 2 {
		t.Errorf("Entries = %v", got)
	}
	spreads(t, g, false)
	ends(t, g.Restart(), api.ErrTurn)
	learns(t, g, c(1), 0)
	enters(t, g, at(1, 0, 1))
	keeps(t, g, c(1))
	logs(t, g, add(1))
	refusesLearn(t, g)
	spreads(t, g, false)
	learns(t, g, nil, -1)
	isDead(t, g, true)
	logs(t, g, add(1), add())
	keeps(t, g, c(1))
	spreads(t, g, false)
	refusesLearn(t, g)
	ends(t, g.Restart(), api.ErrTurn)
	ends(t, g.Decide(1), api.ErrTurn)
	ends(t, g.Forget(0), api.ErrTurn)
	if r, e := forward.Check(none(), g.Log()); e != api.OK || r != (api.Report{Code: api.Accepted, At: 1}) {
		t.Errorf("Check = %v, %d", r, e)
	}
}

// The second one.
func TestExampleForget(t *testing.T) {
	g := made(t, both())
	down(t, g, 4, 1, 2)
	spreads(t, g, false)
	learns(t, g, c(-2, -1), 2)
	enters(t, g, at(4, 1), at(1, 2), at(-2, 2, -2, -1))
	ends(t, g.Forget(0), api.ErrTurn)
	spreads(t, g, true)
	ends(t, g.Forget(0), api.ErrLocked)
	ends(t, g.Forget(1), api.ErrRange)
	ends(t, g.Restart(), api.OK)
	spreads(t, g, true)
	enters(t, g)
	ends(t, g.Forget(0), api.OK)
	keeps(t, g)
	logs(t, g, add(-2, -1), drop(-2, -1))
}

// The third and the fourth one.
func TestExampleModel(t *testing.T) {
	g := made(t, form(2, c(1)))
	spreads(t, g, true)
	enters(t, g, at(1, 0, 1))
	noModel(t, g)
	ends(t, g.Decide(1), api.ErrSet)
	ends(t, g.Decide(-2), api.OK)
	noModel(t, g)
	spreads(t, g, true)
	models(t, g, true, false)
	g = made(t, form(1, c()))
	spreads(t, g, false)
	learns(t, g, nil, -1)
	isDead(t, g, true)
}

// stage is an Engine that has come to a state, with what the calls answer there.
type stage struct {
	name    string
	formula api.Formula
	way     []call
	entries []api.Entry
	loose   bool // which entries there are is not said
	learnts [][]int
	log     []api.Step
	rests   bool
	clashes bool
	dead    bool
	model   []bool
}

// stages: an Engine in each state, the learnts and entries being what they are there.
func stages() []stage {
	learnt := [][]int{c(-2, -1)}
	clash := []call{{spread, 0}, {decide, 4}, {spread, 0}, {decide, 1}, {spread, 0}, {decide, 2}, {spread, 0}}
	taught := append(slices.Clone(clash), call{teach, 0})
	rest := append(slices.Clone(taught), call{spread, 0})
	kill := []call{{spread, 0}, {decide, -1}, {spread, 0}, {teach, 0}, {spread, 0}, {teach, 0}}
	entries := []api.Entry{at(4, 1), at(1, 2), at(-2, 2, -2, -1)}
	add1 := []api.Step{add(-2, -1)}
	return []stage{
		{name: "new", formula: both()},
		{name: "new, with what unit clauses say", formula: form(2, c(1), c(-1, 2))},
		{name: "at rest, at once", formula: both(), way: clash[:1], rests: true},
		{name: "at rest, all known", formula: form(2, c(1), c(-1, -2)), way: clash[:1], rests: true, entries: []api.Entry{at(1, 0, 1), at(-2, 0, -1, -2)}, model: []bool{true, false}},
		{name: "no variables", formula: form(0), way: clash[:1], rests: true, model: []bool{}},
		{name: "behind a Decide", formula: both(), way: clash[:2], entries: entries[:1]},
		{name: "behind a Decide of the last variable", formula: form(2, c(1)), way: []call{{spread, 0}, {decide, -2}}, entries: []api.Entry{at(1, 0, 1), at(-2, 1)}},
		{name: "behind a Learn", formula: both(), way: taught, entries: entries, learnts: learnt, log: add1},
		{name: "at rest, behind a Learn", formula: both(), way: rest, entries: entries, learnts: learnt, log: add1, rests: true},
		{name: "behind a Restart", formula: both(), way: append(slices.Clone(rest), call{restart, 0}), learnts: learnt, log: add1},
		{name: "behind a Restart, all known", formula: form(2, c(1), c(-1, -2)), way: []call{{spread, 0}, {restart, 0}}, entries: []api.Entry{at(1, 0, 1), at(-2, 0, -1, -2)}},
		{name: "at rest, behind a Forget", formula: both(), way: append(slices.Clone(rest), call{restart, 0}, call{spread, 0}, call{forget, 0}), log: []api.Step{add(-2, -1), drop(-2, -1)}, rests: true},
		{name: "at rest, all known behind a decision", formula: form(2, c(-1, 2), c(-1, -2), c(-1)), way: []call{{spread, 0}, {decide, 2}, {spread, 0}}, entries: []api.Entry{at(-1, 0, -1), at(2, 1)}, rests: true, model: []bool{false, true}},
		{name: "in a clash of the formula alone", formula: form(2, c(2), c()), way: clash[:1], clashes: true},
		{name: "in a clash behind a decision", formula: form(2, c(-1, -1, 2), c(-2, -1)), way: []call{{spread, 0}, {decide, 1}, {spread, 0}}, loose: true, clashes: true},
		{name: "in a clash, with a learnt", formula: none(), way: kill[:5], loose: true, learnts: [][]int{c(1)}, log: []api.Step{add(1)}, clashes: true},
		{name: "dead", formula: none(), way: kill, loose: true, learnts: [][]int{c(1)}, log: []api.Step{add(1), add()}, dead: true},
		{name: "dead at once", formula: form(1, c()), way: []call{{spread, 0}, {teach, 0}}, log: []api.Step{add()}, dead: true},
	}
}

// to brings a new Engine to the stage.
func (a stage) to(t *testing.T) *engine.Engine {
	s := see(t, a.formula)
	for _, b := range a.way {
		b.on(s)
	}
	return s.g
}

// answers: what the Engine says of itself is what the stage says.
func (a stage) answers(t *testing.T, g *engine.Engine) {
	t.Helper()
	if !a.loose {
		enters(t, g, a.entries...)
	}
	keeps(t, g, a.learnts...)
	logs(t, g, a.log...)
	isDead(t, g, a.dead)
	if a.model == nil {
		noModel(t, g)
	} else {
		models(t, g, a.model...)
	}
}

// P16.2 to P16.7, Refusals: in each state, what the questions answer, what is refused, and that a refusal does nothing.
func TestStates(t *testing.T) {
	for _, a := range stages() {
		t.Run(a.name, func(t *testing.T) {
			g := a.to(t)
			a.answers(t, g)
			entries, level := g.Entries(), g.Level()
			for _, l := range append(slices.Clone(far), a.formula.Vars+1, -a.formula.Vars-1) {
				ends(t, g.Decide(l), api.ErrShape)
			}
			if a.formula.Vars > 0 && !a.rests {
				ends(t, g.Decide(1), api.ErrTurn)
				ends(t, g.Decide(-a.formula.Vars), api.ErrTurn)
			}
			for _, x := range a.entries {
				if a.rests {
					ends(t, g.Decide(x.Lit), api.ErrSet)
					ends(t, g.Decide(-x.Lit), api.ErrSet)
				}
			}
			want := api.ErrTurn
			if a.rests {
				want = api.ErrRange
			}
			for _, i := range []int{-1, len(a.learnts), 1 << 40, math.MinInt, math.MaxInt} {
				ends(t, g.Forget(i), want)
			}
			if !a.rests {
				ends(t, g.Forget(0), api.ErrTurn)
			}
			if !a.clashes {
				refusesLearn(t, g)
			}
			if a.clashes || a.dead {
				ends(t, g.Restart(), api.ErrTurn)
				spreads(t, g, false)
			}
			if a.rests {
				spreads(t, g, true)
			}
			a.answers(t, g)
			if got := g.Entries(); !slices.EqualFunc(got, entries, sameEntry) || g.Level() != level {
				t.Errorf("Entries = %v, were %v; Level = %d, was %d", got, entries, g.Level(), level)
			}
			a.goesOn(t, g)
		})
	}
}

// goesOn: behind all refusals the calls that are the Engine's turn are carried out.
func (a stage) goesOn(t *testing.T, g *engine.Engine) {
	t.Helper()
	if a.clashes {
		if _, _, e := g.Learn(); e != api.OK {
			t.Errorf("Learn: error %d", e)
		}
		return
	}
	if a.dead {
		return
	}
	ends(t, g.Restart(), api.OK)
	ends(t, g.Forget(0), api.ErrTurn)
	if a.formula.Vars > 0 {
		ends(t, g.Decide(1), api.ErrTurn)
	}
	noModel(t, g)
	spreads(t, g, true)
}
