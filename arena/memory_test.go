package arena_test

import (
	"slices"
	"sync"
	"testing"

	"depot/api"
	"depot/arena"
)

// behind: the list at the head of a longer memory, so that what is written behind its end can be seen.
func behind(c []int) []int {
	return append(slices.Clone(c), 77, -78, 79, -80, 81, -82, 83, -84)[:len(c)]
}

// whole: the list with all the room behind its end.
func whole(c []int) []int { return c[:cap(c)] }

// spoil writes all over a list and the room behind its end, and lets it grow.
func spoil(c []int) {
	for k := range whole(c) {
		whole(c)[k] = 999
	}
	for range 20 {
		c = append(c, 888)
	}
}

// Memory: what comes in is read, no more, nor are the places behind it written.
func TestArgumentsStay(t *testing.T) {
	for _, c := range [][]int{{3, 1, -2, 3}, {}, {5}, {1, 0, 2}, {0}} {
		c = behind(c)
		want := slices.Clone(whole(c))
		a := arena.New()
		a.Put(c, true)
		a.Put(c, false)
		a.Put([]int{4, 5}, false)
		for r := range arena.Ref(4) {
			d, _ := a.Get(r)
			spoil(d)
		}
		for _, d := range a.Live() {
			spoil(d)
		}
		a.Drop(0)
		a.Sweep()
		a.Put([]int{6}, false)
		if !slices.Equal(whole(c), want) {
			t.Errorf("written into what came in: %v, was %v", whole(c), want)
		}
	}
}

// Memory: nobody remembers what came in.
func TestArgumentsAreForgotten(t *testing.T) {
	a, c := arena.New(), behind([]int{1, -2, 3})
	for k := range arena.Ref(3) {
		puts(t, a, entry{4 * k, k == 1, c})
	}
	spoil(c)
	want := []int{1, -2, 3}
	holds(t, a, 12, given(0, want...), learnt(4, want...), given(8, want...))
	d := []int{9}
	puts(t, a, given(12, d...))
	d[0] = 0
	a.Sweep()
	holds(t, a, 14, given(0, want...), learnt(4, want...), given(8, want...), given(12, 9))
}

// Memory: what Get answers is the caller's: neither the arena nor another answer changes with it.
func TestGetIsTheCallers(t *testing.T) {
	a, left := some(t)
	words := 12
	for range 2 {
		for _, e := range left {
			one, _ := a.Get(e.at)
			two, _ := a.Get(e.at)
			spoil(one)
			if !slices.Equal(two, e.lits) {
				t.Errorf("another answer is spoilt: %v, was %v", two, e.lits)
			}
			holds(t, a, words, left...)
		}
		a.Sweep()
		left = []entry{left[0].moved(0), left[1].moved(1), left[2].moved(5), left[3].moved(7)}
		words = 8
	}
}

// Memory: an answer stays as it is, whatever happens to the arena.
func TestAnswersStay(t *testing.T) {
	for name := range changes(t, arena.New()) {
		a, left := some(t)
		var answers [][]int
		for _, e := range left {
			c, _ := a.Get(e.at)
			answers = append(answers, c)
		}
		for _, c := range a.Live() {
			answers = append(answers, c)
		}
		changes(t, a)[name]()
		for k, c := range answers {
			if want := left[k%len(left)].lits; !slices.Equal(c, want) {
				t.Errorf("%s: an answer is %v, was %v", name, c, want)
			}
		}
	}
}

// Memory, Sequences: what Live hands over is the caller's: neither the arena, nor another round, nor the same one changes with it.
func TestLiveIsTheCallers(t *testing.T) {
	a, left := some(t)
	seq := a.Live()
	for range 2 {
		k := 0
		for _, c := range seq {
			if !slices.Equal(c, left[k].lits) {
				t.Errorf("a round that is being spoilt: %v, wanted %v", c, left[k].lits)
			}
			spoil(c)
			k++
		}
		shows(t, seq, left...)
		shows(t, a.Live(), left...)
		holds(t, a, 12, left...)
	}
	f := a.Sweep()
	for _, c := range seq {
		spoil(c)
	}
	leads(t, f, [2]arena.Ref{3, 0}, [2]arena.Ref{4, 1}, [2]arena.Ref{9, 5}, [2]arena.Ref{11, 7})
	holds(t, a, 8, left[0].moved(0), left[1].moved(1), left[2].moved(5), left[3].moved(7))
}

// Memory: an answer that grows doesn't grow into the next clause, nor into one that is put later.
func TestAnswersGrow(t *testing.T) {
	a := with(t, given(0, 1), learnt(2, 2), given(4))
	for _, r := range []arena.Ref{0, 2, 4} {
		c, _ := a.Get(r)
		spoil(append(c, 6, 7, 8, 9))
	}
	puts(t, a, given(5, 3))
	holds(t, a, 7, given(0, 1), learnt(2, 2), given(4), given(5, 3))
	for _, c := range a.Live() {
		spoil(append(c, 6, 7, 8, 9))
	}
	holds(t, a, 7, given(0, 1), learnt(2, 2), given(4), given(5, 3))
}

// told: all that an arena answers behind a drawn row of calls, as numbers.
func told(seed uint64) []int {
	draw, a := drawn(seed), arena.New()
	var out []int
	tell := func(n int, is bool) {
		out = append(out, n)
		if is {
			out = append(out, 1)
		}
	}
	for range 100 {
		r, e := a.Put(draw.clause(), draw.Intn(2) == 0)
		tell(int(r), e == api.OK)
		tell(int(a.Drop(arena.Ref(draw.Intn(a.Words())))), false)
		if draw.Intn(10) == 0 {
			f := a.Sweep()
			for r := range arena.Ref(100) {
				to, ok := f(r)
				tell(int(to), ok)
			}
		}
		for r, c := range a.Live() {
			tell(int(r), a.Learnt(r))
			out = append(out, c...)
		}
		tell(a.Count(), false)
		tell(a.Words(), false)
	}
	return out
}

// Sameness: the same calls answer the same.
func TestSameAgain(t *testing.T) {
	for seed := range uint64(20) {
		want := told(seed)
		for range 3 {
			if !slices.Equal(told(seed), want) {
				t.Fatalf("the calls of %d answered otherwise", seed)
			}
		}
	}
}

// Sameness, Objects: so they do while others work with arenas of their own.
func TestSameBesideOneAnother(t *testing.T) {
	want := [][]int{told(0), told(1), told(2), told(3)}
	var group sync.WaitGroup
	for k := range 16 {
		group.Go(func() {
			for range 5 {
				if seed := k % 4; !slices.Equal(told(uint64(seed)), want[seed]) {
					t.Errorf("the calls of %d answered otherwise", seed)
				}
			}
		})
	}
	group.Wait()
}

// Sequences: a round may be on elsewhere, while the arena goes on.
func TestLiveElsewhere(t *testing.T) {
	a, left := some(t)
	seq := a.Live()
	var group sync.WaitGroup
	for range 4 {
		group.Go(func() {
			for range 50 {
				k := 0
				for r, c := range seq {
					if r != left[k].at || !slices.Equal(c, left[k].lits) {
						t.Errorf("%d and %v, wanted %v", r, c, left[k])
					}
					k++
				}
			}
		})
	}
	for k := range 50 {
		a.Put([]int{k + 1}, true)
		a.Drop(arena.Ref(k))
		if k%10 == 9 {
			a.Sweep()
		}
	}
	group.Wait()
}
