package under

import (
	"slices"
	"testing"

	"depot/api"
	"depot/cnf"
	"depot/heat"
	"depot/lits"
	"depot/unit"
)

// draws: numbers below n, the same ones each time.
func draws(seed uint64) func(n int) int {
	return func(n int) int {
		seed = seed*6364136223846793005 + 1442695040888963407
		return int(seed>>33) % n
	}
}

// hard: a formula of three literals a clause, with few models or none, drawn from a seed.
func hard(vars int, seed uint64) api.Formula {
	draw := draws(seed)
	f := api.Formula{Vars: vars}
	for range 4*vars + draw(vars) {
		var c []int
		for range 3 {
			c = append(c, (1+draw(vars))*(1-2*draw(2)))
		}
		f.Clauses = append(f.Clauses, c)
	}
	return f
}

// keyed: such a formula beside some pairs of variables, of which the first one can't be true where all of some further variables are; and these. What is learnt of a pair is long, for it holds the opposites of all of them, and says something as soon as they are true.
func keyed(vars, pairs, keys int, seed uint64) (api.Formula, []int) {
	f := hard(vars, seed)
	f.Clauses = f.Clauses[:4*vars]
	f.Vars += 2*pairs + keys
	var wanted, shut []int
	for v := vars + 2*pairs + 1; v <= f.Vars; v++ {
		wanted, shut = append(wanted, v), append(shut, -v)
	}
	for v := vars + 1; v <= vars+2*pairs; v += 2 {
		f.Clauses = append(f.Clauses, slices.Concat(shut, []int{-v, v + 1}), slices.Concat(shut, []int{-v, -v - 1}))
	}
	return f, wanted
}

// brisk: configs by which there are restarts and clearings.
func brisk(seed uint64) api.Config {
	n := int(seed)
	return api.Config{Base: 1 + n%3, First: 1 + n%7, Grow: 1 + n%2, Decay: 0.5 + float64(n%6)/10, Phase: 1 + n%3, Budget: -1}
}

// through goes so many decisions on, as run does, with a call for each clash above the gate's level and one behind each decision; false, if the end was met.
func through(s *search, decisions int, clash, decided func()) bool {
	for range decisions {
		for !s.Spread() {
			if s.Level() <= gateLevel {
				return false
			}
			clash()
		}
		if s.Level() < gateLevel {
			if s.Decide(s.wanted[0]) != api.OK {
				return false
			}
			continue
		}
		if _, ok := s.Model(); ok {
			return false
		}
		s.decide()
		decided()
	}
	return true
}

// What the engine is made of: the gate stands in the clauses alone by which it says the others; a model that makes it true is one of the formula that makes all of them true, and the other way round.
func TestGated(t *testing.T) {
	for seed := range uint64(200) {
		f := hard(7, seed)
		draw := draws(seed + 900)
		f.Clauses = f.Clauses[:draw(28)]
		wanted := []int{1, -2, 3, -4, 5, -6, 7}[draw(6):]
		g := gated(f, wanted)
		held := 0
		for _, c := range g.Clauses {
			if lits.Has(c, wanted[0]) {
				t.Fatalf("the gate %d stands in %v", wanted[0], c)
			}
			if lits.Has(c, -wanted[0]) {
				held++
			}
		}
		if held != len(wanted)-1 {
			t.Fatalf("the gate says %d of %v", held, wanted)
		}
		ask := func(m []bool) bool { return cnf.Satisfies(g, m) && m[lits.Var(wanted[0])-1] == (wanted[0] > 0) }
		for m := range cnf.Models(api.Formula{Vars: 7}) {
			all := !slices.ContainsFunc(wanted, func(l int) bool { return m[lits.Var(l)-1] != (l > 0) })
			if ask(m) != (all && cnf.Satisfies(f, m)) {
				t.Fatalf("%v of %v under %v", m, f, wanted)
			}
		}
	}
}

// What is learnt never holds the gate's variable.
func TestGateIsNotLearnt(t *testing.T) {
	learnt := 0
	for seed := range uint64(80) {
		s := begun(hard(60, seed), []int{int(seed%60) + 1, 60 - int(seed%59)}[:1+seed%2], brisk(seed))
		through(s, 500, s.clash, func() {})
		for _, step := range s.Log() {
			learnt++
			if lits.Has(step.Lits, s.wanted[0]) || lits.Has(step.Lits, -s.wanted[0]) {
				t.Fatalf("%v holds %d", step.Lits, s.wanted[0])
			}
		}
	}
	if learnt < 1000 {
		t.Errorf("only %d are learnt", learnt)
	}
}

// Literals that lead to something, but not to the clash, aren't guilty of it; nor are those that stand in no clause.
func TestGuilty(t *testing.T) {
	f := api.Formula{Vars: 9, Clauses: [][]int{{-1, 2}, {-3, 4}, {-4, 5}, {-6, 7}, {-5, -7, -8}, {-2, -9, 1}, {8}}}
	for _, x := range []struct{ literals, want []int }{
		{[]int{1, 3, 6}, []int{3, 6}}, {[]int{9, 6, 1, 3}, []int{6, 3}}, {[]int{3, 6}, []int{3, 6}}, {[]int{1, 2, 7, 5, 9}, []int{7, 5}}, {[]int{1, -8}, []int{-8}}, {[]int{1, 3, -5}, []int{3, -5}},
	} {
		if got := guilty(f, x.literals); !slices.Equal(got, x.want) {
			t.Errorf("of %v these led to it: %v, wanted %v", x.literals, got, x.want)
		}
	}
	f.Clauses = append(f.Clauses, []int{-8})
	if got := guilty(f, []int{1, 9, 2}); len(got) != 0 {
		t.Errorf("%v led to a clash of the formula's own", got)
	}
}

// Behind each conflict, and nowhere else, the pace is told of it, and asked whether it is time to begin anew; where it is, whether it is time to clear.
func TestPaceIsAsked(t *testing.T) {
	for seed := range uint64(60) {
		s := begun(hard(50, seed), []int{1, 2}, brisk(seed))
		by, told, asked, yes, clears := s.when, 0, 0, 0, 0
		s.when.Conflict = func() { told++; by.Conflict() }
		s.when.Restart = func() bool {
			if asked++; asked != told {
				t.Errorf("asked %d times behind %d conflicts", asked, told)
			}
			now := by.Restart()
			if now {
				yes++
			}
			return now
		}
		s.when.Clear = func() bool { clears++; return by.Clear() }
		o, _ := s.run()
		if told != o.Conflicts || asked != told || clears != yes {
			t.Errorf("%d conflicts, %d told, %d times asked, %d times yes, %d times asked for a clearing", o.Conflicts, told, asked, yes, clears)
		}
	}
}

// Behind each decision all open variables are within the order, and those that aren't within are passed, each once; the levels with them don't fall, and none is below the one on which the variable has its value.
func TestPassed(t *testing.T) {
	whole := 0
	for seed := range uint64(90) {
		f := hard(150, seed)
		f.Clauses = f.Clauses[:500]
		s := begun(f, []int{3, -7, 11, 30, -31}[seed%4:], brisk(seed))
		if through(s, 400, s.clash, func() { holds(t, s, f.Vars) }) {
			whole++
		}
		f, wanted := keyed(60, 20, 20, seed)
		s = begun(f, wanted, brisk(seed))
		through(s, 400, s.clash, func() { holds(t, s, f.Vars) })
	}
	if whole < 10 {
		t.Errorf("only %d go on so long", whole)
	}
}

// holds: what TestPassed says.
func holds(t *testing.T, s *search, vars int) {
	t.Helper()
	levels := map[int]int{}
	for _, x := range s.Entries() {
		levels[lits.Var(x.Lit)] = x.Level
	}
	last, out := 0, map[int]int{}
	for _, x := range s.passed {
		own, ok := levels[x.variable]
		if out[x.variable]++; out[x.variable] > 1 || !ok || own > max(x.level, gateLevel) || x.level < last || s.order.within(x.variable) {
			t.Fatalf("passed: %v, of levels %v", s.passed, levels)
		}
		last = x.level
	}
	for v := 1; v <= vars; v++ {
		if s.order.within(v) == (out[v] > 0) {
			t.Fatalf("%d: within is %v; passed: %v", v, s.order.within(v), s.passed)
		}
	}
}

// A clearing takes from what is true on the gate's level, where it takes a clause by which that is: those variables are within the order then, and are decided.
func TestClearingOpens(t *testing.T) {
	opened := 0
	for seed := range uint64(200) {
		f, wanted := keyed(60, 20, 20, seed)
		s := begun(f, wanted, brisk(seed))
		before := 0
		by := s.when
		s.when.Clear = func() bool {
			now := by.Clear()
			if now {
				before = onGate(s)
			}
			return now
		}
		through(s, 300, func() {
			before = 0
			s.clash()
			if before > 0 && onGate(s) < before {
				opened++
			}
		}, func() { holds(t, s, f.Vars) })
	}
	if opened < 50 {
		t.Errorf("only %d clearings take from what is true", opened)
	}
}

// onGate: how many literals are true by what is wanted alone, found by the formula and the learnts.
func onGate(s *search) int {
	known := gated(s.formula, s.wanted)
	known.Clauses = append(known.Clauses, s.Learnts()...)
	all, _, _ := unit.Close(known, s.wanted[:1])
	return len(all)
}

// A clearing takes, of the learnts with more than two literals, the longer half, of some that are as long the earlier ones; but none by which something is true on level 0.
func TestForget(t *testing.T) {
	gone := 0
	for seed := range uint64(100) {
		f := hard(60, seed)
		f.Clauses = f.Clauses[:250]
		config := brisk(seed)
		config.Base = api.MaxPace
		s := begun(f, []int{int(seed%60) + 1}, config)
		through(s, 200, s.clash, func() {})
		if s.Restart() != api.OK || !s.Spread() {
			continue
		}
		was := s.Learnts()
		s.forget()
		left := s.Learnts()
		known := gated(f, s.wanted)
		known.Clauses = append(known.Clauses, was...)
		sure, _, _ := unit.Close(known, nil)
		var want [][]int
		for k, c := range was {
			open := slices.DeleteFunc(slices.Clone(c), func(l int) bool { return lits.Has(sure, -l) })
			keep := len(open) == 1 && lits.Has(sure, open[0])
			if !inLongerHalf(was, k) || keep {
				want = append(want, c)
			}
		}
		if !slices.EqualFunc(left, want, slices.Equal[[]int]) {
			t.Fatalf("of %v are left %v, wanted %v", was, left, want)
		}
		gone += len(was) - len(left)
	}
	if gone < 500 {
		t.Errorf("only %d are gone", gone)
	}
}

// inLongerHalf: is the clause at a place one of the longer half of those with more than two literals?
func inLongerHalf(list [][]int, k int) bool {
	all, ahead := 0, 0
	for i, c := range list {
		if len(c) > 2 {
			all++
			if len(c) > len(list[k]) || len(c) == len(list[k]) && i < k {
				ahead++
			}
		}
	}
	return len(list[k]) > 2 && ahead < (all+1)/2
}

// In each clash the values that there are are kept, where they aren't too many and the config says so, and the variables of the clause that is learnt are warmed.
func TestClashTells(t *testing.T) {
	for seed := range uint64(60) {
		s := begun(hard(40, seed), []int{1, -2}, brisk(seed))
		through(s, 300, func() {
			entries, values, scores := s.Entries(), slices.Clone(s.phase.values), slices.Clone(s.order.waiting.scores)
			adds, step := len(s.Log()), s.order.step
			s.clash()
			if step /= s.order.decay; s.order.step != step && s.order.step != step*lessen {
				t.Fatalf("the step is %g, wanted %g", s.order.step, step)
			}
			if s.phase.kept {
				for _, x := range entries {
					values[lits.Var(x.Lit)-1] = x.Lit > 0
				}
			}
			if !slices.Equal(s.phase.values, values) {
				t.Fatalf("kept are %v, wanted %v", s.phase.values, values)
			}
			learnt := s.Log()[adds].Lits
			for v := 1; v <= 40; v++ {
				warmed := s.order.waiting.scores[v] > scores[v]
				// Where all scores were made smaller none is above what it was.
				if warmed != (lits.Has(learnt, v) || lits.Has(learnt, -v)) && s.order.step > 1 {
					t.Fatalf("%d is warmed: %v; learnt is %v", v, warmed, learnt)
				}
			}
		}, func() {})
	}
}

// Phase: the value that is tried first.
func TestPhases(t *testing.T) {
	for _, x := range []struct {
		phase int
		want  []int
	}{{api.PhaseFalse, []int{-1, -2, -3}}, {api.PhaseTrue, []int{1, 2, 3}}, {api.PhaseKept, []int{-1, 2, -3}}} {
		config := brisk(0)
		config.Phase = x.phase
		o, _, _ := Solve(api.Formula{Vars: 9}, []int{4, -5}, config)
		for k, yes := range o.Model {
			if yes != (k == 3 || k != 4 && x.phase == api.PhaseTrue) {
				t.Errorf("Phase %d: %v", x.phase, o.Model)
			}
		}
		p := phaseOf(config, 3)
		for _, l := range []int{2, -3, 3, -3, 1, -1, -2, 2} {
			p.keep(l)
		}
		if got := []int{p.first(1), p.first(2), p.first(3)}; !slices.Equal(got, x.want) {
			t.Errorf("Phase %d: %v are tried first, wanted %v", x.phase, got, x.want)
		}
	}
}

// The order is that of chapter 14, as far as its scores aren't made smaller: drawn calls are held against heat.
func TestOrderAsHeat(t *testing.T) {
	for seed := range uint64(200) {
		draw := draws(seed)
		n := 1 + draw(12)
		decay := []float64{0.5, 0.75, 0.95, 1}[seed%4]
		o := orderOf(n, decay)
		h, _ := heat.New(n, decay)
		cools := 0
		for range 400 {
			v := 1 + draw(n)
			switch k := draw(4); {
			case k == 0:
				o.warm(v)
				h.Bump(v)
			case k == 1 && cools < 300:
				o.cool()
				h.Cool()
				cools++
			case k == 2:
				a, ok := o.take()
				if b, is := h.Take(); a != b || ok != is {
					t.Fatalf("%d, %v is taken, wanted %d, %v", a, ok, b, is)
				}
			case k == 3 && !o.within(v):
				o.put(v)
				h.Put(v)
			}
			if o.within(v) != h.In(v) {
				t.Fatalf("%d: within is %v", v, o.within(v))
			}
		}
	}
}

// However long it goes on, the scores stay numbers, and a variable that was warmed later goes ahead; of two as warm the lesser one.
func TestOrderForLong(t *testing.T) {
	for _, decay := range []float64{0.5, 0.8, 0.95} {
		o := orderOf(50, decay)
		for k := range 20000 {
			o.cool()
			if k%7 == 0 {
				v := 1 + k/7%50
				o.warm(v)
				if first, _ := o.take(); decay == 0.5 && first != v {
					t.Fatalf("%d goes ahead of %d", first, v)
				} else {
					o.put(first)
				}
			}
			if o.step > most {
				t.Fatalf("the step is %g", o.step)
			}
		}
		for v, x := range o.waiting.scores {
			if !(x >= 0 && x < 1e120) {
				t.Fatalf("the score of %d is %g", v, x)
			}
		}
		inOrder(t, &o)
	}
	// One that was warmed long ago is as warm as one that never was.
	o := orderOf(3, 0.5)
	o.warm(3)
	for range 5000 {
		o.cool()
	}
	inOrder(t, &o)
	if first, _ := o.take(); first != 1 {
		t.Errorf("%d goes first", first)
	}
}

// inOrder: all variables are taken in the order of their scores, and put back.
func inOrder(t *testing.T, o *order) {
	t.Helper()
	var row []int
	for v, ok := o.take(); ok; v, ok = o.take() {
		row = append(row, v)
	}
	for k := 1; k < len(row); k++ {
		a, b := row[k-1], row[k]
		if x, y := o.waiting.scores[a], o.waiting.scores[b]; x < y || x == y && a > b {
			t.Fatalf("%d (%g) goes ahead of %d (%g)", a, x, b, y)
		}
	}
	for _, v := range row {
		o.put(v)
	}
}
