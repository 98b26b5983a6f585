package arena_test

import (
	"testing"

	"depot/arena"
)

// leads: the function takes the places that are named to those beside them, and every other number to nothing.
func leads(t *testing.T, f func(arena.Ref) (arena.Ref, bool), pairs ...[2]arena.Ref) {
	t.Helper()
	want := map[arena.Ref]arena.Ref{}
	for _, p := range pairs {
		want[p[0]] = p[1]
	}
	ask := func(r arena.Ref) {
		t.Helper()
		is, wanted := want[r]
		if to, ok := f(r); to != is || ok != wanted {
			t.Fatalf("%d went to %d, %v; wanted %d, %v", r, to, ok, is, wanted)
		}
	}
	for _, r := range far {
		ask(r)
	}
	for r := range arena.Ref(40) {
		ask(r)
	}
}

// Chapter 4's examples, one behind the other.
func TestExamples(t *testing.T) {
	a := with(t, given(0, 1, -2), learnt(3), learnt(4, 5, 5, 4))
	drops(t, a, 0)
	dropsNot(t, a, 0)
	dropsNot(t, a, 2)
	holds(t, a, 8, learnt(3), learnt(4, 5, 5, 4))
	f := a.Sweep()
	holds(t, a, 5, learnt(0), learnt(1, 5, 5, 4))
	leads(t, f, [2]arena.Ref{3, 0}, [2]arena.Ref{4, 1})
	puts(t, a, given(5, 7))
	holds(t, a, 7, learnt(0), learnt(1, 5, 5, 4), given(5, 7))
	leads(t, f, [2]arena.Ref{3, 0}, [2]arena.Ref{4, 1})
}

// P4.6: what is live is moved together, whatever lay between.
func TestSweep(t *testing.T) {
	a, _ := some(t)
	f := a.Sweep()
	holds(t, a, 8, learnt(0), learnt(1, 5, 5, 4), given(5, -3), learnt(7))
	leads(t, f, [2]arena.Ref{3, 0}, [2]arena.Ref{4, 1}, [2]arena.Ref{9, 5}, [2]arena.Ref{11, 7})
	for _, r := range []arena.Ref{3, 4, 9, 11, 8} {
		dropsNot(t, a, r)
	}
}

// P4.6: of an arena without clauses, and of one without live clauses, the function leads nowhere.
func TestSweepNothing(t *testing.T) {
	a := arena.New()
	leads(t, a.Sweep())
	holds(t, a, 0)
	puts(t, a, given(0, 1, 2))
	puts(t, a, learnt(3))
	drops(t, a, 3)
	drops(t, a, 0)
	f := a.Sweep()
	leads(t, f)
	holds(t, a, 0)
	leads(t, a.Sweep())
	puts(t, a, learnt(0, 3))
	holds(t, a, 2, learnt(0, 3))
	leads(t, f)
}

// P4.6: where nothing was dropped, each stays where it is.
func TestSweepAllLive(t *testing.T) {
	all := []entry{given(0, 1, -2), learnt(3), learnt(4, 5, 5, 4), given(8)}
	a := with(t, all...)
	for range 3 {
		leads(t, a.Sweep(), [2]arena.Ref{0, 0}, [2]arena.Ref{3, 3}, [2]arena.Ref{4, 4}, [2]arena.Ref{8, 8})
		holds(t, a, 9, all...)
	}
}

// P4.6: the first, the last, one in the midst, and what is alone are left out.
func TestSweepWithoutOne(t *testing.T) {
	all := []entry{given(0, 1, -2), learnt(3), learnt(4, 5, 5, 4), given(8, 9)}
	for out := range all {
		a := with(t, all...)
		drops(t, a, all[out].at)
		f := a.Sweep()
		var want []entry
		var pairs [][2]arena.Ref
		to := arena.Ref(0)
		for k, e := range all {
			if k != out {
				want = append(want, e.moved(to))
				pairs = append(pairs, [2]arena.Ref{e.at, to})
				to += 1 + arena.Ref(len(e.lits))
			}
		}
		leads(t, f, pairs...)
		holds(t, a, int(to), want...)
	}
}

// P4.2, P4.4 behind a Sweep: clauses come and go by their new places.
func TestBehindSweep(t *testing.T) {
	a, _ := some(t)
	a.Sweep()
	puts(t, a, given(8, 1, 2))
	drops(t, a, 1)
	dropsNot(t, a, 1)
	dropsNot(t, a, 4)
	puts(t, a, learnt(11, 6))
	holds(t, a, 13, learnt(0), given(5, -3), learnt(7), given(8, 1, 2), learnt(11, 6))
	leads(t, a.Sweep(), [2]arena.Ref{0, 0}, [2]arena.Ref{5, 1}, [2]arena.Ref{7, 3}, [2]arena.Ref{8, 4}, [2]arena.Ref{11, 7})
	holds(t, a, 9, learnt(0), given(1, -3), learnt(3), given(4, 1, 2), learnt(7, 6))
}

// P4.6: a function is that of its own Sweep, whatever happens afterwards.
func TestEarlierSweeps(t *testing.T) {
	a, _ := some(t)
	first := a.Sweep()
	wantFirst := func() {
		t.Helper()
		leads(t, first, [2]arena.Ref{3, 0}, [2]arena.Ref{4, 1}, [2]arena.Ref{9, 5}, [2]arena.Ref{11, 7})
	}
	drops(t, a, 1)
	wantFirst()
	puts(t, a, given(8, 1, 2))
	wantFirst()
	second := a.Sweep()
	wantSecond := func() {
		t.Helper()
		leads(t, second, [2]arena.Ref{0, 0}, [2]arena.Ref{5, 1}, [2]arena.Ref{7, 3}, [2]arena.Ref{8, 4})
	}
	wantFirst()
	wantSecond()
	for r := range arena.Ref(a.Words()) {
		a.Drop(r)
	}
	third := a.Sweep()
	wantFirst()
	wantSecond()
	leads(t, third)
	for k := range 30 {
		puts(t, a, learnt(arena.Ref(2*k), k+1))
	}
	wantFirst()
	wantSecond()
	leads(t, third)
}
