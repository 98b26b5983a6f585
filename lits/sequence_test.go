package lits_test

import (
	"iter"
	"slices"
	"testing"

	"depot/lits"
)

// meeting: two lists with resolvents on 1 (twice), 2 and 3, in disorder and with room behind their ends.
func meeting() ([]int, []int, []resolvent) {
	a, b := behind([]int{-3, 1, -2, -1, 5}), behind([]int{3, 2, -1, 1, 5, 5})
	return a, b, []resolvent{
		{1, []int{1, -1, 2, -2, 3, -3, 5}},
		{1, []int{1, -1, 2, -2, 3, -3, 5}},
		{2, []int{1, -1, 3, -3, 5}},
		{3, []int{1, -1, 2, -2, 5}},
	}
}

func sameRound(t *testing.T, what string, got, want []resolvent) {
	t.Helper()
	if !slices.EqualFunc(got, want, equal) {
		t.Errorf("%s: %v, not %v", what, got, want)
	}
}

// Sequences: the lists are shown as they were when Resolvents answered.
func TestSequenceKeepsItsLists(t *testing.T) {
	a, b, want := meeting()
	seq := lits.Resolvents(a, b)
	spoil(a)
	spoil(b)
	sameRound(t, "the lists spoilt ahead of it", round(seq), want)

	a, b, _ = meeting()
	var got []resolvent
	for v, r := range lits.Resolvents(a, b) {
		got = append(got, resolvent{v, r})
		spoil(a)
		spoil(b)
	}
	sameRound(t, "the lists spoilt within it", got, want)
}

// Sequences: a list that becomes sound, or no more so, afterwards changes nothing.
func TestSequenceKeepsItsRefusal(t *testing.T) {
	a, b := []int{1, 0}, []int{-1}
	seq := lits.Resolvents(a, b)
	a[1] = 2
	sameRound(t, "not sound at the call", round(seq), nil)

	a, b = []int{1, 2}, []int{-1}
	seq = lits.Resolvents(a, b)
	b[0] = 0
	sameRound(t, "sound at the call", round(seq), []resolvent{{1, []int{2}}})
}

// Sequences: it can be begun again and again.
func TestSequenceAgain(t *testing.T) {
	a, b, want := meeting()
	seq := lits.Resolvents(a, b)
	for range 3 {
		sameRound(t, "again", round(seq), want)
	}
}

// Sequences: another round of it may be on, and each goes its own way.
func TestSequenceWithinItself(t *testing.T) {
	a, b, want := meeting()
	seq := lits.Resolvents(a, b)
	var outer []resolvent
	for v, r := range seq {
		outer = append(outer, resolvent{v, r})
		sameRound(t, "the inner round", round(seq), want)
	}
	sameRound(t, "the outer round", outer, want)

	next, stop := iter.Pull2(seq)
	other, stopOther := iter.Pull2(seq)
	defer stop()
	defer stopOther()
	for _, x := range want {
		for _, pull := range []func() (int, []int, bool){next, other} {
			if v, r, ok := pull(); !ok || !equal(resolvent{v, r}, x) {
				t.Errorf("two rounds by turns: %d, %v, not %v", v, r, x)
			}
		}
	}
}

// Sequences: it can be left anywhere, and begun again from the first on.
func TestSequenceLeft(t *testing.T) {
	a, b, want := meeting()
	seq := lits.Resolvents(a, b)
	for n := 1; n <= len(want); n++ {
		var got []resolvent
		for v, r := range seq {
			got = append(got, resolvent{v, r})
			if len(got) == n {
				break
			}
		}
		sameRound(t, "left", got, want[:n])
		sameRound(t, "begun again", round(seq), want)
	}
	calls := 0
	seq(func(int, []int) bool {
		calls++
		return false
	})
	if calls != 1 {
		t.Errorf("it went on %d times when it was left", calls-1)
	}
}

// Sequences, Memory: each step's list is the caller's own: to write into it, or to let it grow, changes no other one.
func TestSequenceHandsOver(t *testing.T) {
	a, b, want := meeting()
	wantA, wantB := slices.Clone(whole(a)), slices.Clone(whole(b))
	seq := lits.Resolvents(a, b)
	got := round(seq)
	for k := range got {
		spoil(got[k].r)
		sameRound(t, "those behind a spoilt one", got[k+1:], want[k+1:])
		sameRound(t, "a new round", round(seq), want)
	}
	k := 0
	for v, r := range seq {
		if k >= len(want) || !equal(resolvent{v, r}, want[k]) {
			t.Fatalf("step %d, those ahead spoilt: %d, %v", k, v, r)
		}
		spoil(r)
		k++
	}
	if !slices.Equal(whole(a), wantA) || !slices.Equal(whole(b), wantB) {
		t.Error("a step's list shares memory with those that came in")
	}
}
