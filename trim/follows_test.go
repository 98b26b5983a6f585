package trim_test

import (
	"slices"
	"testing"

	"depot/api"
	"depot/cnf"
	"depot/forward"
	"depot/trim"
)

// drawnGood shows formulas and steps that are good for them, and what Trim answers of them.
func drawnGood(t *testing.T, from uint64, n int, show func(draw *drawer, f api.Formula, steps []api.Step, core []int, proof []api.Step)) {
	t.Helper()
	for k := range n {
		draw := drawn(from + uint64(k))
		f, steps := draw.drawnProof()
		if k%2 == 1 {
			f, steps = draw.richProof()
		}
		core, proof, e := trim.Trim(f, steps)
		if e != api.OK {
			t.Fatalf("Trim(%v, %v): error %d", f, steps, e)
		}
		show(draw, f, steps, core, proof)
	}
}

// P12.4: where Trim answers OK no model satisfies Only(f, core).
func TestNoModel(t *testing.T) {
	drawnGood(t, 5000, 200, func(_ *drawer, f api.Formula, _ []api.Step, core []int, _ []api.Step) {
		g, _ := trim.Only(f, core)
		if n, e := cnf.Count(g); n != 0 || e != api.OK {
			t.Fatalf("%v has %d models, error %d", g, n, e)
		}
	})
}

// P12.4: a formula that has a model is never one of which Trim answers OK, whoever wrote the steps.
func TestAModelIsRefused(t *testing.T) {
	some := 0
	drawnGood(t, 6000, 100, func(draw *drawer, f api.Formula, steps []api.Step, _ []int, _ []api.Step) {
		for range 20 {
			g := form(f.Vars, slices.Clone(f.Clauses)...)
			for range 1 + draw.Intn(len(g.Clauses)/2) {
				g.Clauses = but(g.Clauses, draw.Intn(len(g.Clauses)))
			}
			if n, _ := cnf.Count(g); n > 0 {
				refuses(t, g, api.ErrRefused, steps...)
				some++
			}
		}
	})
	if some < 500 {
		t.Errorf("only %d with a model", some)
	}
}

// P12.4: forward.Check accepts the proof over Only(f, core), with its last step.
func TestForwardAccepts(t *testing.T) {
	drawnGood(t, 7000, 300, func(_ *drawer, f api.Formula, _ []api.Step, core []int, proof []api.Step) {
		g, _ := trim.Only(f, core)
		if r, e := forward.Check(g, proof); r != (api.Report{Code: api.Accepted, At: len(proof) - 1}) || e != api.OK {
			t.Fatalf("Check(%v, %v) = %v, error %d", g, proof, r, e)
		}
	})
}

// P12.4: Trim of Only(f, core) and proof answers OK; and as nothing can be left out of it, all of it.
func TestTrimAgain(t *testing.T) {
	drawnGood(t, 8000, 300, func(_ *drawer, f api.Formula, _ []api.Step, core []int, proof []api.Step) {
		g, _ := trim.Only(f, core)
		again, steps, e := trim.Trim(g, proof)
		if e != api.OK || !rises(again, len(core)) || len(again) != len(core) || !alike(steps, proof) {
			t.Fatalf("Trim(%v, %v) = %v, %v, error %d", g, proof, again, steps, e)
		}
	})
}

// P12.4: more steps behind the empty clause turn no OK into ErrRefused.
func TestMoreStepsBehind(t *testing.T) {
	drawnGood(t, 9000, 100, func(draw *drawer, f api.Formula, steps []api.Step, _ []int, _ []api.Step) {
		for range 4 {
			more := slices.Clone(steps)
			for range 1 + draw.Intn(4) {
				more = append(more, api.Step{Drop: draw.Intn(2) == 0, Lits: draw.list(f.Vars+4, draw.Intn(4))})
			}
			if core, _ := trims(t, f, more); len(core) == 0 {
				t.Fatalf("Trim(%v, %v) is refused", f, more)
			}
		}
	})
}

// P12.4: more clauses in f turn no OK into ErrRefused, wherever they are put in, whatever they say.
func TestMoreClauses(t *testing.T) {
	drawnGood(t, 10000, 100, func(draw *drawer, f api.Formula, steps []api.Step, _ []int, _ []api.Step) {
		for range 4 {
			g := form(f.Vars+draw.Intn(3), slices.Clone(f.Clauses)...)
			for range 1 + draw.Intn(6) {
				g.Clauses = slices.Insert(g.Clauses, draw.Intn(len(g.Clauses)+1), draw.list(g.Vars, draw.Intn(4)))
			}
			if core, _ := trims(t, g, steps); len(core) == 0 {
				t.Fatalf("Trim(%v, %v) is refused", g, steps)
			}
		}
	})
}

// P12.4: steps with Drop, put in anywhere, turn no OK into ErrRefused; in truth they change nothing.
func TestMoreDrops(t *testing.T) {
	drawnGood(t, 11000, 100, func(draw *drawer, f api.Formula, steps []api.Step, core []int, proof []api.Step) {
		for range 4 {
			more := slices.Clone(steps)
			for range 1 + draw.Intn(6) {
				gone := draw.list(f.Vars+2, draw.Intn(4))
				if draw.Intn(2) == 0 {
					gone = f.Clauses[draw.Intn(len(f.Clauses))]
				}
				more = slices.Insert(more, draw.Intn(len(more)+1), drop(gone...))
			}
			gotCore, gotProof := trims(t, f, more)
			if !slices.Equal(gotCore, core) || !alike(gotProof, proof) {
				t.Fatalf("Trim(%v, %v) = %v, %v, without the drops %v, %v", f, more, gotCore, gotProof, core, proof)
			}
		}
	})
}
