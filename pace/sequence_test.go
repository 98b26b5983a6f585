package pace_test

import (
	"iter"
	"slices"
	"testing"

	"depot/pace"
)

// begun: the first numbers of a round of a sequence.
func begun(seq iter.Seq[int], n int) []int {
	var out []int
	for x := range seq {
		out = append(out, x)
		if len(out) == n {
			break
		}
	}
	return out
}

func sameRound(t *testing.T, what string, got, want []int) {
	t.Helper()
	if !slices.Equal(got, want) {
		t.Errorf("%s: %v, not %v", what, got, want)
	}
}

// Sequences: it can be left anywhere, and goes no step further then.
func TestSequenceLeft(t *testing.T) {
	want := lubyByRuns(6)
	for n := 1; n <= len(want); n++ {
		seq, steps := pace.Seq(), 0
		seq(func(x int) bool {
			if x != want[steps] {
				t.Fatalf("number %d is %d, not %d", steps+1, x, want[steps])
			}
			steps++
			return steps < n
		})
		if steps != n {
			t.Errorf("%d steps, left at %d", steps, n)
		}
		sameRound(t, "begun again", begun(seq, len(want)), want)
	}
}

// Sequences: a return and a label leave it too.
func TestSequenceLeftFarOut(t *testing.T) {
	first := func() int {
		for x := range pace.Seq() {
			if x == 16 {
				return x
			}
		}
		return 0
	}
	if got := first(); got != 16 {
		t.Errorf("the first one above 8 is %d", got)
	}
	n := 0
outer:
	for range pace.Seq() {
		for x := range pace.Seq() {
			n++
			if x == 8 {
				break outer
			}
		}
	}
	if n != 15 {
		t.Errorf("left behind %d numbers, not 15", n)
	}
}

// Sequences: it begins with the first number each time.
func TestSequenceAgain(t *testing.T) {
	seq, want := pace.Seq(), lubyByRuns(8)
	for _, n := range []int{1, 255, 7, 100, 2, 255} {
		sameRound(t, "again", begun(seq, n), want[:n])
	}
}

// Sequences: another round of it may be on, and each goes its own way.
func TestSequenceWithinItself(t *testing.T) {
	seq, want := pace.Seq(), lubyByRuns(6)
	var outer []int
	for x := range seq {
		outer = append(outer, x)
		sameRound(t, "the inner round", begun(seq, len(outer)), want[:len(outer)])
		if len(outer) == len(want) {
			break
		}
	}
	sameRound(t, "the outer round", outer, want)
}

// Sequences: two rounds by turns, of one sequence and of two, one of them ahead.
func TestSequenceByTurns(t *testing.T) {
	seq, want := pace.Seq(), lubyByRuns(8)
	first, stopFirst := iter.Pull(seq)
	second, stopSecond := iter.Pull(seq)
	third, stopThird := iter.Pull(pace.Seq())
	defer stopFirst()
	defer stopSecond()
	defer stopThird()
	const ahead = 5
	for range ahead {
		first()
	}
	for k := range 200 {
		a, okA := first()
		b, okB := second()
		c, okC := third()
		if !okA || !okB || !okC || a != want[k+ahead] || b != want[k] || c != want[k] {
			t.Fatalf("by turns at %d: %d, %d, %d", k, a, b, c)
		}
	}
}

// Sequences: a Pace that goes on meanwhile takes nothing from it, nor it from the Pace.
func TestSequenceBesideAPace(t *testing.T) {
	p, want := made(t, led(1, 1, 1)), lubyByRuns(6)
	var got []int
	for x := range pace.Seq() {
		got = append(got, x)
		conflicts(p, x-1)
		if p.Restart() {
			t.Fatalf("Restart %d is true behind %d conflicts", len(got), x-1)
		}
		p.Conflict()
		if !p.Restart() {
			t.Fatalf("Restart %d is false behind %d conflicts", len(got), x)
		}
		if len(got) == len(want) {
			break
		}
	}
	sameRound(t, "beside a Pace", got, want)
}
