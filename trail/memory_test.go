package trail_test

import (
	"slices"
	"sync"
	"testing"

	"depot/trail"
)

// behind: the list at the head of a longer memory, so that what is written behind its end can be seen.
func behind(c []int) []int {
	return append(slices.Clone(c), 77, -78, 79, -80, 81, -82, 83, -84)[:len(c)]
}

// whole: the list with all the room behind its end.
func whole(c []int) []int { return c[:cap(c)] }

// spoil writes all over a list and the room behind its end, and lets it grow.
func spoil(c []int) {
	for k := range whole(c) {
		whole(c)[k] = 999
	}
	for range 20 {
		c = append(c, 888)
	}
}

// Memory: what comes in is read, no more, nor are the places behind it written.
func TestArgumentsStay(t *testing.T) {
	for _, c := range [][]int{nil, {}, {8}, {8, 1, 8, -8}, {7, 3, 2, 2}, {1, -2, 1}, {-8, -8, 1}, {2, 0}, {9, 2, 1}, {1, 8, 9}} {
		x, p := some(t)
		c = behind(c)
		want := slices.Clone(whole(c))
		x.Look(c)
		x.Look(c)
		decides(t, x, p, 8)
		x.Look(c)
		goesBack(t, x, p, 0)
		x.Look(c)
		if !slices.Equal(whole(c), want) {
			t.Errorf("written into what came in: %v, was %v", whole(c), want)
		}
	}
}

// Memory: nobody remembers what came in.
func TestArgumentsAreForgotten(t *testing.T) {
	x, p := some(t)
	c := behind([]int{1, 8, -2})
	looks(t, x, 2, 8, c...)
	if n, l := x.Look(c); n != 2 || l != 8 {
		t.Errorf("Look = %d, %d", n, l)
	}
	spoil(c)
	holds(t, x, p)
	if n, l := x.Look(c); n != 0 || l != 0 {
		t.Errorf("Look of what is spoilt = %d, %d", n, l)
	}
	looks(t, x, 2, 8, 1, 8, -2)
}

// Memory: what Lits and Marks answer is the caller's: neither the trail nor another answer changes with it.
func TestAnswersAreTheCallers(t *testing.T) {
	for _, ask := range []func(*trail.Trail) []int{(*trail.Trail).Lits, (*trail.Trail).Marks} {
		x, p := some(t)
		for level := 3; level >= 0; level-- {
			goesBack(t, x, p, level)
			one, two := ask(x), ask(x)
			want := slices.Clone(two)
			spoil(one)
			spoil(ask(x))
			if !slices.Equal(two, want) {
				t.Errorf("another answer is spoilt: %v, was %v", two, want)
			}
			holds(t, x, p)
		}
		decides(t, x, p, 8)
		implies(t, x, p, 7, 1)
		holds(t, x, p)
	}
}

// Memory: what Back answers is the caller's too; and where it answers none, that has no room of the trail's behind it.
func TestBacksAnswerIsTheCallers(t *testing.T) {
	for level := 0; level <= 3; level++ {
		x, p := some(t)
		lits, marks := x.Lits(), x.Marks()
		wantLits, wantMarks := slices.Clone(lits), slices.Clone(marks)
		one, _ := x.Back(level)
		p.back(level)
		want := slices.Clone(one)
		again, _ := x.Back(level)
		spoil(again)
		if !slices.Equal(one, want) {
			t.Errorf("another answer is spoilt: %v, was %v", one, want)
		}
		spoil(one)
		holds(t, x, p)
		if !slices.Equal(lits, wantLits) || !slices.Equal(marks, wantMarks) {
			t.Errorf("other answers are spoilt: %v and %v, were %v and %v", lits, marks, wantLits, wantMarks)
		}
		decides(t, x, p, 8)
		implies(t, x, p, -4, 2)
		holds(t, x, p)
	}
}

// Memory: an answer stays as it is, whatever happens to the trail.
func TestAnswersStay(t *testing.T) {
	x, p := some(t)
	first, marks := x.Lits(), x.Marks()
	wantFirst, wantMarks := slices.Clone(first), slices.Clone(marks)
	out, _ := x.Back(0)
	p.back(0)
	wantOut := slices.Clone(out)
	left := x.Lits()
	wantLeft := slices.Clone(left)
	for _, l := range []int{8, 7, -6, 1, 3} {
		decides(t, x, p, l)
	}
	implies(t, x, p, -4, 4)
	for _, pair := range [][2][]int{{first, wantFirst}, {marks, wantMarks}, {out, wantOut}, {left, wantLeft}} {
		if !slices.Equal(pair[0], pair[1]) {
			t.Errorf("an answer is %v, was %v", pair[0], pair[1])
		}
	}
	holds(t, x, p)
}

// Memory: an answer that grows doesn't grow into what is laid later, nor that into the answer's room.
func TestAnswersGrow(t *testing.T) {
	x, p := with(t, 8, item{1, 0, 2})
	for l := 2; l <= 8; l++ {
		lits, marks := append(x.Lits(), 100), append(x.Marks(), 200)
		decides(t, x, p, -l)
		lits, marks = append(lits, 101), append(marks, 201)
		if !slices.Equal(lits[l-1:], []int{100, 101}) || !slices.Equal(marks[l-2:], []int{200, 201}) {
			t.Errorf("answers that grew are %v and %v", lits, marks)
		}
		holds(t, x, p)
	}
}

// Sameness: to ask changes nothing.
func TestAskingChangesNothing(t *testing.T) {
	x, p := some(t)
	want := answers(x, 8)
	for range 3 {
		if !slices.Equal(answers(x, 8), want) {
			t.Fatal("asked again, it answers otherwise")
		}
		holds(t, x, p)
	}
}

// told: all that a trail answers behind a drawn row of calls, as numbers.
func told(seed uint64) []int {
	const vars = 6
	draw := drawn(seed)
	x, e := trail.New(vars)
	out := []int{int(e)}
	for range 100 {
		gone, e := draw.call(vars, x.Level()).on(x)
		out = append(append(out, int(e)), gone...)
		out = append(out, answers(x, vars)...)
	}
	return out
}

// Sameness: the same calls answer the same.
func TestSameAgain(t *testing.T) {
	for seed := range uint64(20) {
		want := told(seed)
		for range 3 {
			if !slices.Equal(told(seed), want) {
				t.Fatalf("the calls of %d answered otherwise", seed)
			}
		}
	}
}

// Sameness, Objects: so they do while others work with trails of their own.
func TestSameBesideOneAnother(t *testing.T) {
	want := [][]int{told(0), told(1), told(2), told(3)}
	var group sync.WaitGroup
	for k := range 16 {
		group.Go(func() {
			for range 5 {
				if seed := k % 4; !slices.Equal(told(uint64(seed)), want[seed]) {
					t.Errorf("the calls of %d answered otherwise", seed)
				}
			}
		})
	}
	group.Wait()
}
