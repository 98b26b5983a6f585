package arena_test

import (
	"iter"
	"slices"
	"testing"

	"depot/api"
	"depot/arena"
)

// shows: a round of the sequence hands over just these.
func shows(t *testing.T, seq iter.Seq2[arena.Ref, []int], want ...entry) {
	t.Helper()
	var got []entry
	for r, c := range seq {
		got = append(got, entry{at: r, lits: c})
	}
	same := func(e, o entry) bool { return e.at == o.at && slices.Equal(e.lits, o.lits) }
	if !slices.EqualFunc(got, want, same) {
		t.Fatalf("Live shows %v, wanted %v", got, want)
	}
}

// some: an arena with clauses of many kinds, of which two were dropped; 12 words.
func some(t *testing.T) (*arena.Arena, []entry) {
	t.Helper()
	all := []entry{given(0, 1, -2), learnt(3), learnt(4, 5, 5, 4), given(8), given(9, -3), learnt(11)}
	a := with(t, all...)
	drops(t, a, 0)
	drops(t, a, 8)
	return a, []entry{all[1], all[2], all[4], all[5]}
}

// P4.5: the live clauses in the order of their places, and how many there are.
func TestLive(t *testing.T) {
	shows(t, arena.New().Live())
	a, left := some(t)
	if a.Count() != 4 {
		t.Errorf("Count = %d", a.Count())
	}
	shows(t, a.Live(), left...)
	for k, e := range left {
		drops(t, a, e.at)
		shows(t, a.Live(), left[k+1:]...)
		if a.Count() != len(left)-k-1 {
			t.Errorf("Count = %d", a.Count())
		}
	}
}

// Sequences: it is left wherever one likes, and begun again.
func TestLiveLeftAndBegunAgain(t *testing.T) {
	a, left := some(t)
	seq := a.Live()
	for n := range len(left) + 1 {
		k := 0
		for r, c := range seq {
			if k == n {
				break
			}
			if r != left[k].at || !slices.Equal(c, left[k].lits) {
				t.Fatalf("left at %d: %d and %v", n, r, c)
			}
			k++
		}
		if k != n {
			t.Fatalf("left at %d, not at %d", k, n)
		}
		shows(t, seq, left...)
	}
	holds(t, a, 12, left...)
}

// Sequences: once it was left it hands nothing over any more.
func TestLiveStopsWhenLeft(t *testing.T) {
	a, left := some(t)
	for n := range left {
		calls := 0
		a.Live()(func(arena.Ref, []int) bool {
			calls++
			return calls <= n
		})
		if calls != n+1 {
			t.Errorf("told to stop at %d, it stopped at %d", n+1, calls)
		}
	}
}

// Sequences: a round within a round, of the same sequence and of another one.
func TestLiveWithinLive(t *testing.T) {
	a, left := some(t)
	seq := a.Live()
	k := 0
	for r, c := range seq {
		shows(t, seq, left...)
		shows(t, a.Live(), left...)
		if r != left[k].at || !slices.Equal(c, left[k].lits) {
			t.Fatalf("the outer round: %d and %v", r, c)
		}
		k++
	}
	next, stop := iter.Pull2(seq)
	defer stop()
	next()
	shows(t, seq, left...)
	if r, c, ok := next(); r != left[1].at || !slices.Equal(c, left[1].lits) || !ok {
		t.Errorf("another round, pulled: %d and %v, %v", r, c, ok)
	}
}

// changes: what may happen to an arena behind Live, whose clauses are some's.
func changes(t *testing.T, a *arena.Arena) map[string]func() {
	return map[string]func(){
		"Put":   func() { puts(t, a, given(arena.Ref(a.Words()), 6, 7)) },
		"Drop":  func() { a.Drop(4) },
		"Drops": func() { a.Drop(3); a.Drop(4); a.Drop(9); a.Drop(11) },
		"Sweep": func() { a.Sweep() },
		"Drop and Sweep": func() {
			a.Drop(3)
			a.Sweep()
		},
		"Sweep of nothing, and Put": func() {
			for r := range arena.Ref(a.Words()) {
				a.Drop(r)
			}
			a.Sweep()
			for k := range 20 {
				puts(t, a, learnt(arena.Ref(3*k), -8, 9))
			}
		},
		"a Put that is refused": func() { a.Put([]int{0}, false) },
	}
}

// Sequences: it shows what was there when Live answered, whatever happened then.
func TestLiveAsItWas(t *testing.T) {
	for name := range changes(t, arena.New()) {
		a, left := some(t)
		seq := a.Live()
		changes(t, a)[name]()
		shows(t, seq, left...)
		changes(t, a)[name]()
		shows(t, seq, left...)
	}
	none := arena.New()
	seq := none.Live()
	puts(t, none, given(0, 1))
	shows(t, seq)
}

// Sequences: what happens while a round is on isn't seen in it.
func TestLiveWhileItIsOn(t *testing.T) {
	for name := range changes(t, arena.New()) {
		for at := range 4 {
			a, left := some(t)
			k := 0
			for r, c := range a.Live() {
				if k == at {
					changes(t, a)[name]()
				}
				if r != left[k].at || !slices.Equal(c, left[k].lits) {
					t.Fatalf("%s at %d: %d and %v", name, at, r, c)
				}
				k++
			}
			if k != len(left) {
				t.Errorf("%s at %d: %d clauses", name, at, k)
			}
		}
	}
}

// P4.5, P4.4: all that Live shows can be dropped on the way.
func TestLiveDropped(t *testing.T) {
	a, _ := some(t)
	for r := range a.Live() {
		if e := a.Drop(r); e != api.OK {
			t.Errorf("Drop(%d) = %d", r, e)
		}
	}
	holds(t, a, 12)
}
