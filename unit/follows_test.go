package unit_test

import (
	"slices"
	"testing"

	"depot/api"
	"depot/cnf"
	"depot/unit"
)

// each shows formulas and facts: all short ones, and drawn ones that are longer.
func each(show func(f api.Formula, facts []int)) {
	for _, f := range small(2) {
		for _, facts := range someFacts() {
			show(f, facts)
		}
	}
	for seed := range uint64(500) {
		show(drawn(seed).longer())
	}
}

// within: does each of one list stand in the other?
func within(some, all []int) bool {
	return !slices.ContainsFunc(some, func(l int) bool { return !slices.Contains(all, l) })
}

// P6.6: the facts stand in the closure, and the closure's closure is itself.
func TestClosureIsClosed(t *testing.T) {
	each(func(f api.Formula, facts []int) {
		l, clash, _ := unit.Close(f, facts)
		if clash {
			return
		}
		if !within(facts, l) {
			t.Errorf("Close(%v; %v) = %v: facts are missing", f, facts, l)
		}
		closes(t, f, l, l, false)
		explainsNothing(t, f, l)
	})
}

// explainsNothing says where something is still to be put to a closure.
func explainsNothing(t *testing.T, f api.Formula, closure []int) {
	t.Helper()
	explains(t, f, closure, -1)
}

// P6.6: with more facts, or more clauses, the closure has no less, or it is a clash; a clash stays one.
func TestMoreSaysMore(t *testing.T) {
	draw := drawn(3)
	each(func(f api.Formula, facts []int) {
		l, clash, _ := unit.Close(f, facts)
		more := append(slices.Clone(facts), draw.list(f.Vars+2, 1+draw.Intn(2))...)
		g := form(f.Vars, append(slices.Clone(f.Clauses), draw.formula(f.Vars, 1+draw.Intn(2), 3).Clauses...)...)
		for _, with := range []struct {
			f     api.Formula
			facts []int
		}{{f, more}, {g, facts}, {g, more}} {
			k, also, e := unit.Close(with.f, with.facts)
			if e != api.OK || clash && !also || !also && !within(l, k) {
				t.Errorf("Close(%v; %v) = %v, %v; with more, (%v; %v), %v, %v, error %d", f, facts, l, clash, with.f, with.facts, k, also, e)
			}
		}
	})
}

// P6.6: a model of the formula and the facts is one of the closure, and of a clash there is none.
func TestModelsFollow(t *testing.T) {
	models, none := 0, 0
	each(func(f api.Formula, facts []int) {
		f.Vars += 2
		if slices.ContainsFunc(facts, func(l int) bool { return max(l, -l) > f.Vars }) {
			return
		}
		l, clash, _ := unit.Close(f, facts)
		units := form(f.Vars)
		for _, fact := range facts {
			units.Clauses = append(units.Clauses, c(fact))
		}
		both, _ := cnf.Join(f, units)
		for m := range cnf.Models(both) {
			models++
			if clash || slices.ContainsFunc(l, func(k int) bool { return m[max(k, -k)-1] != (k > 0) }) {
				t.Fatalf("Close(%v; %v) = %v, %v, against the model %v", f, facts, l, clash, m)
			}
		}
		if clash {
			none++
		}
	})
	if models == 0 || none == 0 {
		t.Errorf("%d models, %d clashes", models, none)
	}
}

// P6.6: each literal of Why's list is one that Close answers, unless a clause is false; and then it is a clash.
func TestWhyAndClose(t *testing.T) {
	each(func(f api.Formula, facts []int) {
		causes, clause, e := unit.Why(f, facts)
		l, clash, _ := unit.Close(f, facts)
		if e == api.ErrClash {
			if !clash {
				t.Errorf("%v; %v: ErrClash of Why, Close answers %v", f, facts, l)
			}
			return
		}
		if clash != (clause >= 0) {
			t.Fatalf("%v; %v: Why's clause is %d, Close answers %v, %v", f, facts, clause, l, clash)
		}
		all := slices.Clone(facts)
		for _, cause := range causes {
			all = append(all, cause.Lit)
		}
		if !clash && !slices.Equal(byIndex(all), l) {
			t.Errorf("%v; %v: Why puts %v, Close answers %v", f, facts, causes, l)
		}
	})
}

// P6.4 and P6.5 by P6.1: what is forced stands in Close's answer; what Probe tells clashes from it alone.
func TestForcesAndProbeByClose(t *testing.T) {
	for seed := range uint64(200) {
		f, facts := drawn(seed + 1000).longer()
		l, clash, _ := unit.Close(f, facts)
		told, _ := unit.Probe(f)
		for v := 1; v <= f.Vars; v++ {
			for _, k := range c(v, -v) {
				forces(t, f, facts, k, clash || slices.Contains(l, k))
				if _, alone, _ := unit.Close(f, c(k)); alone != slices.Contains(told, k) {
					t.Errorf("Probe(%v) = %v; from %d alone: %v", f, told, k, alone)
				}
			}
		}
	}
}
