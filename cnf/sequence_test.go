package cnf_test

import (
	"iter"
	"slices"
	"testing"

	"depot/api"
	"depot/cnf"
)

// meant: a formula with room behind all ends, and its models.
func meant() (api.Formula, [][]bool) {
	return roomy(form(3, c(1, 2, 1), c(-3, -1), c(2, -2))), [][]bool{
		{true, false, false},
		{false, true, false},
		{true, true, false},
		{false, true, true},
	}
}

// spoilModel writes all over a model and the room behind its end.
func spoilModel(m []bool, with bool) {
	for k := range whole(m) {
		whole(m)[k] = with
	}
}

// P2.6, Sequences: the formula is shown as it was when Models answered.
func TestSequenceKeepsItsFormula(t *testing.T) {
	f, want := meant()
	seq := cnf.Models(f)
	spoil(f)
	sameModels(t, "the formula spoilt ahead of it", round(seq), want)

	f, _ = meant()
	var got [][]bool
	for m := range cnf.Models(f) {
		got = append(got, m)
		spoil(f)
	}
	sameModels(t, "the formula spoilt within it", got, want)
}

// P2.6, Sequences: literals that are changed into others, one by one or clause by clause, aren't seen.
func TestSequenceKeepsItsClauses(t *testing.T) {
	f := form(2, c(1, 2), c(1, -2))
	seq := cnf.Models(f)
	want := [][]bool{{true, false}, {true, true}}
	f.Clauses[0][0], f.Clauses[1][0] = -1, -1
	sameModels(t, "literals changed", round(seq), want)
	f.Clauses[0], f.Clauses[1] = c(), c(-1)
	sameModels(t, "clauses changed", round(seq), want)
}

// P2.6, Sequences: a formula that becomes well shaped, or no more so, afterwards changes nothing.
func TestSequenceKeepsItsRefusal(t *testing.T) {
	f := form(1, c(0))
	seq := cnf.Models(f)
	f.Clauses[0][0] = 1
	sameModels(t, "not well shaped at the call", round(seq), nil)

	seq = cnf.Models(f)
	f.Clauses[0][0] = 0
	sameModels(t, "well shaped at the call", round(seq), [][]bool{{true}})
}

// Sequences: it can be begun again and again.
func TestSequenceAgain(t *testing.T) {
	f, want := meant()
	seq := cnf.Models(f)
	for range 3 {
		sameModels(t, "again", round(seq), want)
	}
}

// Sequences: another round of it may be on, and each goes its own way.
func TestSequenceWithinItself(t *testing.T) {
	f, want := meant()
	seq := cnf.Models(f)
	var outer [][]bool
	for m := range seq {
		outer = append(outer, m)
		sameModels(t, "the inner round", round(seq), want)
	}
	sameModels(t, "the outer round", outer, want)

	next, stop := iter.Pull(seq)
	other, stopOther := iter.Pull(seq)
	defer stop()
	defer stopOther()
	for _, x := range want {
		for _, pull := range []func() ([]bool, bool){next, other} {
			if m, ok := pull(); !ok || !slices.Equal(m, x) {
				t.Errorf("two rounds by turns: %v, not %v", m, x)
			}
		}
	}
}

// Sequences: it can be left anywhere, and begun again from the first on.
func TestSequenceLeft(t *testing.T) {
	f, want := meant()
	seq := cnf.Models(f)
	for n := 1; n <= len(want); n++ {
		var got [][]bool
		for m := range seq {
			got = append(got, m)
			if len(got) == n {
				break
			}
		}
		sameModels(t, "left", got, want[:n])
		sameModels(t, "begun again", round(seq), want)
	}
	calls := 0
	seq(func([]bool) bool {
		calls++
		return false
	})
	if calls != 1 {
		t.Errorf("it went on %d times when it was left", calls-1)
	}
}

// Sequences, Memory: each step's model is the caller's own: to write into it, or to let it grow, changes no other one.
func TestSequenceHandsOver(t *testing.T) {
	f, want := meant()
	before := seen(f)
	seq := cnf.Models(f)
	for _, with := range []bool{false, true} {
		got := round(seq)
		for k := range got {
			spoilModel(append(got[k], with), with)
			spoilModel(got[k], with)
			sameModels(t, "those behind a spoilt one", got[k+1:], want[k+1:])
			sameModels(t, "a new round", round(seq), want)
		}
		k := 0
		for m := range seq {
			if k >= len(want) || !slices.Equal(m, want[k]) {
				t.Fatalf("step %d, those ahead spoilt: %v", k, m)
			}
			spoilModel(m, with)
			k++
		}
		if k != len(want) {
			t.Errorf("%d steps, those ahead spoilt", k)
		}
	}
	if !equal(seen(f), before) {
		t.Error("a step's model shares memory with what came in")
	}
}
