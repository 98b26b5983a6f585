package arena_test

import (
	"math"
	"slices"
	"testing"

	"depot/api"
	"depot/arena"
)

// entry is a clause as it should stand in an arena.
type entry struct {
	at     arena.Ref
	learnt bool
	lits   []int
}

// moved: the clause at another place.
func (e entry) moved(to arena.Ref) entry { return entry{to, e.learnt, e.lits} }

// given: a clause that was put as one of the formula's.
func given(at arena.Ref, lits ...int) entry { return entry{at, false, lits} }

// learnt: a clause that was put as learnt.
func learnt(at arena.Ref, lits ...int) entry { return entry{at, true, lits} }

// far are places where never a clause is.
var far = []arena.Ref{-1, -2, -3, -api.MaxVar, -api.MaxVar - 1, api.MaxVar * 1000, math.MaxInt32, math.MaxInt, math.MaxInt - 1, math.MinInt, math.MinInt + 1}

// holds: the arena has just these live clauses, by all that can be asked of it, and so many words.
func holds(t *testing.T, a *arena.Arena, words int, want ...entry) {
	t.Helper()
	if a.Words() != words || a.Count() != len(want) {
		t.Fatalf("%d words, %d clauses; wanted %d, %d", a.Words(), a.Count(), words, len(want))
	}
	places := slices.Clone(far)
	for r := range arena.Ref(words) + 4 {
		places = append(places, r)
	}
	for _, r := range places {
		k := slices.IndexFunc(want, func(e entry) bool { return e.at == r })
		if k < 0 {
			hasNot(t, a, r)
		} else {
			has(t, a, want[k])
		}
	}
	k := 0
	for r, c := range a.Live() {
		if k == len(want) || r != want[k].at || !slices.Equal(c, want[k].lits) {
			t.Fatalf("Live: %d and %v, wanted %v from %d on", r, c, want, k)
		}
		k++
	}
	if k != len(want) {
		t.Fatalf("Live: %d clauses, wanted %v", k, want)
	}
}

// has: the clause stands there.
func has(t *testing.T, a *arena.Arena, e entry) {
	t.Helper()
	if c, ok := a.Get(e.at); !ok || !slices.Equal(c, e.lits) {
		t.Fatalf("Get(%d) = %v, %v; wanted %v", e.at, c, ok, e.lits)
	}
	if a.Learnt(e.at) != e.learnt {
		t.Fatalf("Learnt(%d) = %v", e.at, !e.learnt)
	}
}

// hasNot: no clause stands there.
func hasNot(t *testing.T, a *arena.Arena, r arena.Ref) {
	t.Helper()
	if c, ok := a.Get(r); ok || len(c) != 0 {
		t.Fatalf("Get(%d) = %v, %v", r, c, ok)
	}
	if a.Learnt(r) {
		t.Fatalf("Learnt(%d)", r)
	}
}

// puts: Put lays the clause at that place.
func puts(t *testing.T, a *arena.Arena, e entry) {
	t.Helper()
	words, count := a.Words(), a.Count()
	if r, errno := a.Put(e.lits, e.learnt); r != e.at || errno != api.OK {
		t.Fatalf("Put(%v) = %d, %d; wanted %d", e.lits, r, errno, e.at)
	}
	if int(e.at) != words || a.Words() != words+1+len(e.lits) || a.Count() != count+1 {
		t.Fatalf("Put(%v) behind %d words: then %d", e.lits, words, a.Words())
	}
}

// drops: Drop of the place is OK.
func drops(t *testing.T, a *arena.Arena, r arena.Ref) {
	t.Helper()
	if e := a.Drop(r); e != api.OK {
		t.Fatalf("Drop(%d) = %d", r, e)
	}
}

// dropsNot: Drop of the place is ErrRange.
func dropsNot(t *testing.T, a *arena.Arena, r arena.Ref) {
	t.Helper()
	if e := a.Drop(r); e != api.ErrRange {
		t.Fatalf("Drop(%d) = %d", r, e)
	}
}

// with: a new arena, with these clauses put.
func with(t *testing.T, entries ...entry) *arena.Arena {
	t.Helper()
	a := arena.New()
	for _, e := range entries {
		puts(t, a, e)
	}
	return a
}

// P4.1: a new arena has nothing.
func TestNew(t *testing.T) {
	a := arena.New()
	holds(t, a, 0)
	dropsNot(t, a, 0)
	holds(t, a, 0)
}

// Objects: two of them know nothing of one another.
func TestTwoArenas(t *testing.T) {
	a, b := with(t, given(0, 1, 2)), with(t, learnt(0, 3))
	holds(t, a, 3, given(0, 1, 2))
	holds(t, b, 2, learnt(0, 3))
	drops(t, a, 0)
	puts(t, b, given(2, -4))
	a.Sweep()
	holds(t, a, 0)
	holds(t, b, 4, learnt(0, 3), given(2, -4))
}

// P4.2: each clause is laid behind all that is there, as it stands.
func TestPut(t *testing.T) {
	a := arena.New()
	puts(t, a, given(0, 1, -2))
	holds(t, a, 3, given(0, 1, -2))
	puts(t, a, learnt(3))
	holds(t, a, 4, given(0, 1, -2), learnt(3))
	puts(t, a, learnt(4, 5, 5, 4))
	holds(t, a, 8, given(0, 1, -2), learnt(3), learnt(4, 5, 5, 4))
	puts(t, a, given(8))
	holds(t, a, 9, given(0, 1, -2), learnt(3), learnt(4, 5, 5, 4), given(8))
}

// P4.2: a clause's literals aren't tidied: neither their order, nor one that stands there twice, nor an opposite.
func TestPutAsItStands(t *testing.T) {
	for _, lits := range [][]int{{3, 1, 2}, {7, 7, 7}, {-1, 1}, {2, -2, 2}, {-9, 8, -9}, {api.MaxVar, -api.MaxVar, 1, -1}, {-api.MaxVar}, {api.MaxVar}} {
		for _, is := range []bool{false, true} {
			one := entry{0, is, lits}
			two := entry{arena.Ref(len(lits) + 1), !is, lits}
			holds(t, with(t, one, two), 2*len(lits)+2, one, two)
		}
	}
}

// P4.2: the empty clause may be put, nil or not, alone, first, last, and many times.
func TestPutEmpty(t *testing.T) {
	a := arena.New()
	var want []entry
	for k := range 20 {
		e := entry{at: arena.Ref(k), learnt: k%3 == 0}
		if k%2 == 0 {
			e.lits = []int{}
		}
		puts(t, a, e)
		want = append(want, e)
		holds(t, a, k+1, want...)
	}
	puts(t, a, given(20, 1))
	drops(t, a, 7)
	drops(t, a, 12)
	want = slices.Delete(append(want, given(20, 1)), 12, 13)
	holds(t, a, 22, slices.Delete(want, 7, 8)...)
}

// P4.2: what isn't sound is refused, wherever in the list it is, and nothing has been done.
func TestPutRefuses(t *testing.T) {
	a := arena.New()
	refuse := func(c []int) {
		t.Helper()
		for _, is := range []bool{false, true} {
			if r, e := a.Put(c, is); r != 0 || e != api.ErrShape {
				t.Fatalf("Put(%v) = %d, %d", c, r, e)
			}
		}
	}
	for _, bad := range []int{0, api.MaxVar + 1, -api.MaxVar - 1, api.MaxVar + 2, 2 * api.MaxVar, math.MaxInt, math.MinInt, math.MinInt + 1} {
		refuse([]int{bad})
	}
	holds(t, a, 0)
	puts(t, a, given(0, 1, 2))
	for _, bad := range []int{0, api.MaxVar + 1, -api.MaxVar - 1, math.MinInt, math.MaxInt} {
		refuse([]int{bad})
		refuse([]int{bad, 1, 2})
		refuse([]int{1, bad, 2})
		refuse([]int{1, 2, bad})
		refuse([]int{bad, bad})
	}
	holds(t, a, 3, given(0, 1, 2))
	puts(t, a, learnt(3, 4))
	holds(t, a, 5, given(0, 1, 2), learnt(3, 4))
}

// P4.2, P4.3: a long clause, and many.
func TestPutMuch(t *testing.T) {
	long := make([]int, api.MaxVar)
	for k := range long {
		long[k] = (k + 1) * (1 - 2*(k%2))
	}
	a := with(t, given(0, 5), learnt(2, long...), given(3+api.MaxVar))
	if c, ok := a.Get(2); !ok || !slices.Equal(c, long) || !a.Learnt(2) || a.Words() != 4+api.MaxVar {
		t.Fatalf("a long clause: %d literals, %v, %d words", len(c), ok, a.Words())
	}
	for k := range arena.Ref(api.MaxVar) {
		hasNot(t, a, 3+k)
	}
	has(t, a, given(3+api.MaxVar))
	drops(t, a, 2)
	if f := a.Sweep(); a.Words() != 3 {
		t.Fatalf("a long clause is gone: %d words", a.Words())
	} else if to, ok := f(3 + api.MaxVar); to != 2 || !ok {
		t.Fatalf("behind a long clause: %d, %v", to, ok)
	}
	many := arena.New()
	for k := range 100000 {
		puts(t, many, learnt(arena.Ref(3*k), k+1, -k-1))
	}
	for k := range 100000 {
		has(t, many, learnt(arena.Ref(3*k), k+1, -k-1))
	}
}

// P4.3: Get and Learnt of any number: in the midst of clauses, below 0, at the last word and behind it.
func TestGetAnywhere(t *testing.T) {
	a := with(t, learnt(0, api.MaxVar, -api.MaxVar, 1), learnt(4), given(5, -1, 2))
	has(t, a, learnt(0, api.MaxVar, -api.MaxVar, 1))
	has(t, a, learnt(4))
	has(t, a, given(5, -1, 2))
	for _, r := range append(slices.Clone(far), 1, 2, 3, 6, 7, 8, 9, 10) {
		hasNot(t, a, r)
	}
}

// P4.3: to ask changes nothing.
func TestAskingChangesNothing(t *testing.T) {
	a := with(t, given(0, 1, -2), learnt(3), learnt(4, 5))
	drops(t, a, 3)
	for range 3 {
		holds(t, a, 6, given(0, 1, -2), learnt(4, 5))
	}
}

// P4.4: what was dropped is live no more, and its words stay.
func TestDrop(t *testing.T) {
	all := []entry{given(0, 1, -2), learnt(3), learnt(4, 5, 5, 4), given(8), given(9, -3)}
	for k, e := range all {
		a := with(t, all...)
		drops(t, a, e.at)
		left := slices.Delete(slices.Clone(all), k, k+1)
		holds(t, a, 11, left...)
		dropsNot(t, a, e.at)
		holds(t, a, 11, left...)
		puts(t, a, e.moved(11))
		holds(t, a, 12+len(e.lits), append(left, e.moved(11))...)
	}
}

// P4.4: where no live clause is, Drop refuses and does nothing.
func TestDropRefuses(t *testing.T) {
	all := []entry{learnt(0, api.MaxVar, -api.MaxVar, 1), learnt(4), given(5, -1, 2)}
	a := with(t, all...)
	for _, r := range append(slices.Clone(far), 1, 2, 3, 6, 7, 8, 9, 10) {
		dropsNot(t, a, r)
	}
	holds(t, a, 8, all...)
}

// P4.4: the clauses go in any order, the last one too; then there is none, and the words are still there.
func TestDropAll(t *testing.T) {
	for _, order := range [][]int{{0, 1, 2}, {0, 2, 1}, {1, 0, 2}, {1, 2, 0}, {2, 0, 1}, {2, 1, 0}} {
		all := []entry{given(0, 1), learnt(2), learnt(3, 2, -2)}
		a := with(t, all...)
		for _, k := range order {
			drops(t, a, all[k].at)
		}
		holds(t, a, 6)
		for _, k := range order {
			dropsNot(t, a, all[k].at)
		}
		puts(t, a, given(6, 9))
		holds(t, a, 8, given(6, 9))
	}
}

// P4.2, P4.4: the same clause twice is two clauses.
func TestTwice(t *testing.T) {
	a := with(t, given(0, 1, 2), given(3, 1, 2), learnt(6, 1, 2))
	drops(t, a, 3)
	holds(t, a, 9, given(0, 1, 2), learnt(6, 1, 2))
}
