package forward_test

import (
	"slices"
	"testing"

	"depot/api"
	"depot/cnf"
	"depot/forward"
	"depot/rup"
)

// hasModel: does some model satisfy the clauses?
func hasModel(clauses [][]int) bool {
	for range cnf.Models(over(clauses...)) {
		return true
	}
	return false
}

// P11.6: if a model satisfies f, some model satisfies the clauses of a Forward of f at each moment, whatever is added and taken out, and it is never done.
func TestAModelStays(t *testing.T) {
	some := 0
	for seed := range uint64(400) {
		draw := drawn(seed + 7000)
		vars := 3 + draw.Intn(6)
		f := draw.formula(vars, 4*vars)
		if !hasModel(f.Clauses) {
			continue
		}
		w := made(t, f)
		for range 60 {
			step := draw.step(vars, w.Clauses())
			what, e := on(w, step)
			if e != api.OK || what == 0 {
				continue
			}
			some++
			if w.Done() || !hasModel(w.Clauses()) {
				t.Fatalf("%v takes the last model from %v", step, w.Clauses())
			}
		}
	}
	if some < 3000 {
		t.Errorf("only %d steps", some)
	}
}

// P1, P11.6: Check answers Accepted only if no model satisfies f, whoever wrote the steps.
func TestAcceptedHasNoModel(t *testing.T) {
	accepted, without := 0, 0
	try := func(f api.Formula, steps []api.Step) {
		r, _ := forward.Check(f, steps)
		if r.Code != api.Accepted {
			return
		}
		accepted++
		if n, e := cnf.Count(f); n != 0 || e != api.OK {
			t.Fatalf("Check(%v, %v) = %v, but it has %d models", f, steps, r, n)
		}
	}
	for _, f := range formulas(3) {
		for _, steps := range [][]api.Step{{add()}, {add(1), add()}, {add(2), add()}, {add(1), add(-1), add()}, {add(2, 1), add(-2), add()}, {drop(1, 2), add(1), add()}} {
			try(f, steps)
		}
	}
	for seed := range uint64(200) {
		draw := drawn(seed + 9000)
		f, proof := draw.drawnProof()
		// A formula that lacks clauses mostly has a model, and the proof is one of another formula then.
		for range 20 {
			g := form(f.Vars, slices.Clone(f.Clauses)...)
			for range 1 + draw.Intn(len(g.Clauses)/2) {
				at := draw.Intn(len(g.Clauses))
				g.Clauses = slices.Delete(g.Clauses, at, at+1)
			}
			try(g, proof)
			try(g, draw.spoilt(g, proof))
			if !hasModel(g.Clauses) {
				without++
			}
		}
	}
	if accepted < 500 || without < 100 {
		t.Errorf("only %d accepted, %d without a model", accepted, without)
	}
}

// reordered: the formula with its clauses in another order, with their literals in another order and twice.
func (d *drawer) reordered(f api.Formula) api.Formula {
	out := form(f.Vars)
	for _, clause := range f.Clauses {
		out.Clauses = append(out.Clauses, d.shuffled(clause, true))
	}
	for k := range out.Clauses {
		j := d.Intn(k + 1)
		out.Clauses[k], out.Clauses[j] = out.Clauses[j], out.Clauses[k]
	}
	return out
}

// told: what a Forward answers to all questions, as numbers; 0 parts one list from the next.
func told(w *forward.Forward) []int {
	units, clash := w.Units()
	out := append(units, 0)
	for _, clause := range w.Clauses() {
		out = append(append(out, clause...), 0)
	}
	if clash {
		out = append(out, 7777)
	}
	if w.Done() {
		out = append(out, 8888)
	}
	return out
}

// toldBy: what a Forward of a formula answers to steps, and to all questions behind each of them.
func toldBy(f api.Formula, steps []api.Step) []int {
	w, e := forward.New(f)
	if e != api.OK {
		return []int{int(e)}
	}
	out := told(w)
	for _, step := range steps {
		what, e := on(w, step)
		out = append(append(out, what, int(e), 0), told(w)...)
	}
	r, e := forward.Check(f, steps)
	return append(out, r.Code, r.At, int(e))
}

// P11.6: if f's clauses come in another order, or with their literals in another order or twice, no answer changes.
func TestOrderSaysNothing(t *testing.T) {
	for seed := range uint64(300) {
		draw := drawn(seed + 11000)
		vars := 3 + draw.Intn(8)
		f := draw.formula(vars, 4*vars)
		var steps []api.Step
		if seed%3 == 0 {
			f, steps = draw.drawnProof()
			steps = draw.spoilt(f, steps)
		}
		for range 20 {
			steps = append(steps, draw.step(vars, f.Clauses))
		}
		want := toldBy(f, steps)
		for range 4 {
			g := draw.reordered(f)
			if got := toldBy(g, steps); !slices.Equal(got, want) {
				t.Fatalf("%v and %v are told apart by %v", f, g, steps)
			}
		}
	}
}

// P11.6: a proof that is accepted is so with any steps behind it.
func TestStepsBehindTheEnd(t *testing.T) {
	for seed := range uint64(150) {
		draw := drawn(seed + 13000)
		f, proof := draw.drawnProof()
		last := len(proof) - 1
		for range 10 {
			longer := slices.Clone(proof)
			for range 1 + draw.Intn(5) {
				longer = append(longer, draw.step(f.Vars, f.Clauses))
			}
			ends(t, f, api.Accepted, last, longer...)
		}
		ends(t, f, api.Accepted, last, append(slices.Clone(proof), add(0), drop(99), add(), drop(0))...)
	}
}

// P11.6: a proof that is accepted, whose additions were all rup.Rup, is accepted with its drops left out, all of them or some.
func TestDropsLeftOut(t *testing.T) {
	gone := 0
	for seed := range uint64(300) {
		draw := drawn(seed + 15000)
		f, proof := draw.drawnProof()
		w := made(t, f)
		for _, step := range proof {
			if what, _ := on(w, step); step.Drop && what == forward.Gone {
				gone++
			}
		}
		without := slices.DeleteFunc(slices.Clone(proof), func(step api.Step) bool { return step.Drop })
		ends(t, f, api.Accepted, len(without)-1, without...)
		w = made(t, f)
		for _, step := range without {
			adds(t, w, step.Lits, rup.Rup)
		}
		some := slices.DeleteFunc(slices.Clone(proof), func(step api.Step) bool { return step.Drop && draw.Intn(2) == 0 })
		ends(t, f, api.Accepted, len(some)-1, some...)
	}
	if gone < 500 {
		t.Errorf("only %d drops by which a clause is gone", gone)
	}
}

// P11.6: with an addition that was rup.Rat that needn't be so: a clause that is there yet may be in its way.
func TestDropsOfRatCount(t *testing.T) {
	f := over(c(1, 2), c(-1, 2), c(1, -2), c(-1, -2), c(-3, 4))
	ends(t, f, api.Accepted, 3, drop(4, -3), add(3, -4), add(2), add())
	ends(t, f, api.Accepted, 2, add(3, -4), add(2), add())
	f = over(c(1, 2), c(-1, 2), c(1, -2), c(-1, -2), c(-3, 4), c(-3, 5))
	ends(t, f, api.Accepted, 3, drop(5, -3), add(3, -4), add(2), add())
	ends(t, f, api.Refused, 0, add(3, -4), add(2), add())
}
