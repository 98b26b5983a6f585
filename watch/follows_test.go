package watch_test

import (
	"slices"
	"testing"

	"depot/api"
	"depot/unit"
	"depot/watch"
)

// carried are the clauses and assumptions of a Watch, by the calls that were carried out.
type carried struct {
	f       api.Formula
	assumed []int
}

// take notes a call that was OK.
func (k *carried) take(a call) {
	switch a.kind {
	case add:
		k.f.Clauses = append(k.f.Clauses, a.list)
	case assume:
		k.assumed = append(k.assumed, a.list[0])
	case undo:
		k.assumed = k.assumed[:len(k.assumed)-1]
	}
}

// P7.7: at rest what is known is unit.Close of all clauses from the assumptions, and a Run answers false just if that clashes.
func TestRestIsClose(t *testing.T) {
	rests, clashes := 0, 0
	for seed := range uint64(1500) {
		draw := drawn(seed + 20000)
		vars := 2 + draw.Intn(14)
		k := carried{f: draw.formula(vars, 2*vars)}
		w := made(t, k.f)
		for range 60 {
			a := draw.call(vars)
			answer := a.on(w)
			if a.kind != run {
				if answer == int(api.OK) {
					k.take(a)
				}
				continue
			}
			want, clash, _ := unit.Close(k.f, k.assumed)
			if clash != (answer == 0) || !clash && !slices.Equal(w.Lits(), want) {
				t.Fatalf("Run: %d, %v; Close(%v; %v) = %v, %v", answer, w.Lits(), k.f, k.assumed, want, clash)
			}
			if clash {
				clashes++
			} else {
				rests++
			}
		}
	}
	if rests < 1000 || clashes < 1000 {
		t.Errorf("only %d times at rest, %d clashes", rests, clashes)
	}
}

// otherWay brings clauses and assumptions in by another order, with more or fewer Runs, and with other assumptions that are taken back; what is known then, and whether it is a clash.
func otherWay(draw *drawer, k carried) ([]int, bool) {
	clauses := shuffled(draw, k.f.Clauses)
	cut := draw.Intn(len(clauses) + 1)
	w, _ := watch.New(form(k.f.Vars, clauses[:cut]...))
	clauses = clauses[cut:]
	for _, l := range shuffled(draw, k.assumed) {
		if len(clauses) > 0 && draw.Intn(2) == 0 {
			w.Add(clauses[0])
			clauses = clauses[1:]
		}
		w.Run()
		detour(draw, w, k.f.Vars)
		w.Run()
		if w.Clashes() || slices.Contains(w.Lits(), -l) {
			return nil, true
		}
		w.Assume(l) // refused, if it is known
	}
	for _, clause := range clauses {
		w.Add(clause)
		if draw.Intn(3) == 0 {
			w.Run()
		}
	}
	if !w.Run() {
		return nil, true
	}
	return w.Lits(), false
}

// detour assumes a few literals, and takes them back.
func detour(draw *drawer, w *watch.Watch, vars int) {
	depth := w.Depth()
	for range draw.Intn(4) {
		w.Assume(draw.literal(vars))
		w.Run()
	}
	for w.Depth() > depth {
		w.Undo()
		if draw.Intn(2) == 0 {
			w.Run()
		}
	}
}

// shuffled: the same elements in a drawn order.
func shuffled[E any](draw *drawer, list []E) []E {
	out := slices.Clone(list)
	for k := range out {
		at := draw.Intn(k + 1)
		out[k], out[at] = out[at], out[k]
	}
	return out
}

// P7.7: how the clauses and assumptions came, in which order, with how many Runs and Undos between, says nothing.
func TestOrderSaysNothing(t *testing.T) {
	rests, clashes := 0, 0
	for seed := range uint64(1500) {
		draw := drawn(seed + 40000)
		vars := 3 + draw.Intn(10)
		k := carried{f: draw.formula(vars, 2*vars)}
		for range draw.Intn(4) {
			if l := draw.literal(vars); !slices.Contains(k.assumed, -l) && !slices.Contains(k.assumed, l) {
				k.assumed = append(k.assumed, l)
			}
		}
		want, clash, _ := unit.Close(k.f, k.assumed)
		for range 4 {
			if got, is := otherWay(draw, k); is != clash || !slices.Equal(got, want) {
				t.Fatalf("seed %d: %v, %v; Close(%v; %v) = %v, %v", seed, got, is, k.f, k.assumed, want, clash)
			}
		}
		if clash {
			clashes++
		} else {
			rests++
		}
	}
	if rests < 200 || clashes < 200 {
		t.Errorf("only %d times at rest, %d clashes", rests, clashes)
	}
}

// P7.4, Any argument: a row of literals, each saying the next, at the greatest number of variables, there and back.
func TestLongChain(t *testing.T) {
	const n = api.MaxVar
	f := form(n)
	for v := 1; v < n; v++ {
		f.Clauses = append(f.Clauses, c(-v, v+1))
	}
	w := made(t, f)
	runs(t, w, true)
	for range 3 {
		ends(t, w.Assume(1), api.OK)
		runs(t, w, true)
		if got := w.Lits(); len(got) != n || got[n-1] != n {
			t.Fatalf("%d literals are known", len(got))
		}
		ends(t, w.Undo(), api.OK)
		runs(t, w, true)
		knows(t, w, 0)
	}
	ends(t, w.Add(c(-n)), api.OK)
	runs(t, w, true)
	if got := w.Lits(); len(got) != n || got[0] != -1 {
		t.Fatalf("%d literals are known", len(got))
	}
}

// P7.3 to P7.5: a long clause whose literals become false one depth behind the other, there and back and there again.
func TestLongClauseDeep(t *testing.T) {
	const n = 100000
	var long []int
	for v := 1; v <= n; v++ {
		long = append(long, v)
	}
	w := made(t, form(n, long))
	runs(t, w, true)
	for range 3 {
		for v := 1; v < n; v++ {
			if w.Assume(-v) != api.OK || !w.Run() {
				t.Fatalf("%d can't be assumed", -v)
			}
		}
		if got := w.Lits(); len(got) != n || got[n-1] != n {
			t.Fatalf("%d literals are known", len(got))
		}
		for w.Depth() > 0 {
			w.Undo()
		}
		knows(t, w, 0)
		runs(t, w, true)
	}
}

// P7.5: many clauses that came in at the bottom of many depths, and the way back.
func TestManyLate(t *testing.T) {
	const n = 700
	w := made(t, form(2*n))
	runs(t, w, true)
	for v := 1; v <= n; v++ {
		ends(t, w.Assume(v), api.OK)
		runs(t, w, true)
	}
	for v := 1; v <= n; v++ {
		ends(t, w.Add(c(n+v, -v)), api.OK)
	}
	for depth := n; depth >= 0; depth-- {
		runs(t, w, true)
		if got := len(w.Lits()); got != 2*depth {
			t.Fatalf("at the depth %d %d literals are known", depth, got)
		}
		w.Undo()
	}
}
