package drat_test

import (
	"iter"
	"slices"
	"strings"
	"testing"

	"depot/api"
	"depot/drat"
)

const (
	some   = "1 -2 0\nc\nd 3 0 0\nd\n4\n4 0\n-5 0"
	faulty = some + " 6 x 0\n7 0\n"
)

func someSteps() []api.Step {
	return []api.Step{add(1, -2), drop(3), add(), drop(4, 4), add(-5)}
}

// gives: the round gave these.
func gives(t *testing.T, what string, got, want []api.Step) {
	t.Helper()
	if !equal(got, want) {
		t.Errorf("%.80q: %v, not %v", what, got, want)
	}
}

// P9.3: all steps of a text without a fault; of one with a fault those whose 0 stands ahead of it.
func TestSteps(t *testing.T) {
	gives(t, "no fault", round(some), someSteps())
	gives(t, "a fault", round(faulty), someSteps())
	gives(t, "the chapter's", round("1 0\n2 0 3 x 0\n4 0\n"), []api.Step{add(1), add(2)})
	gives(t, "no text", round(""), nil)
	gives(t, "idle lines", round("c\n\n \n"), nil)
}

// P9.3: each kind of fault ends it: a remark, a word, the end; what stands behind is not given, whatever it is.
func TestStepsUpToTheFault(t *testing.T) {
	for _, fault := range []string{
		"\nc\xff\n", "\nc\r\n", "\n2\nc\x00\n0\n", " x ", " 2 x ", " d x ", " d d ", " 2 d ", " d 2 d ", " 0x ", " 2 0x ", " 2 0\r\n", " 00 ", " -0 ", " 2 -0 ", " 2 +0 ", " 1048577 ", " \xff ", " dd ", "\n c\n", " c\n",
	} {
		gives(t, fault, round("1 0"+fault), []api.Step{add(1)})
		gives(t, fault, round("1 0"+fault+"0 2 0\n3 0\n"), []api.Step{add(1)})
		gives(t, fault, round("d 7 0 1 0"+fault+"\n0\n\nd 8 0"), []api.Step{drop(7), add(1)})
		gives(t, fault, round(strings.TrimLeft(fault, "\n")+"0 2 0\n"), nil)
	}
	for _, end := range []string{" 2", " d", " d 2", "\n2\n", "\nd\nc\n"} {
		gives(t, end, round("1 0"+end), []api.Step{add(1)})
		gives(t, end, round(end), nil)
	}
}

// Sequences: it can be left anywhere, and begun again from the first on; it goes on no more when it is left.
func TestStepsLeft(t *testing.T) {
	for _, s := range []string{some, faulty} {
		seq := drat.Steps(s)
		for n := 1; n <= len(someSteps()); n++ {
			var got []api.Step
			for step := range seq {
				got = append(got, step)
				if len(got) == n {
					break
				}
			}
			gives(t, "left", got, someSteps()[:n])
			gives(t, "begun again", slices.Collect(seq), someSteps())
			calls := 0
			seq(func(api.Step) bool {
				calls++
				return calls < n
			})
			if calls != n {
				t.Errorf("left at %d: it went on %d times", n, calls-n)
			}
		}
	}
}

// Sequences: it can be gone through again and again.
func TestStepsAgain(t *testing.T) {
	for _, s := range []string{some, faulty} {
		seq := drat.Steps(s)
		for range 3 {
			gives(t, "again", slices.Collect(seq), someSteps())
		}
	}
}

// Sequences: one round within another, and two by turns: each goes its own way.
func TestStepsWithinItself(t *testing.T) {
	for _, s := range []string{some, faulty} {
		seq := drat.Steps(s)
		var outer []api.Step
		for step := range seq {
			outer = append(outer, step)
			gives(t, "the inner round", slices.Collect(seq), someSteps())
			for range seq {
				break
			}
		}
		gives(t, "the outer round", outer, someSteps())
		byTurns(t, seq)
	}
}

// byTurns takes a step of one round and one of another.
func byTurns(t *testing.T, seq iter.Seq[api.Step]) {
	t.Helper()
	next, stop := iter.Pull(seq)
	other, stopOther := iter.Pull(seq)
	defer stop()
	defer stopOther()
	for _, want := range someSteps() {
		for _, pull := range []func() (api.Step, bool){next, other} {
			if step, ok := pull(); !ok || !equal([]api.Step{step}, []api.Step{want}) {
				t.Errorf("two rounds by turns: %v, not %v", step, want)
			}
		}
	}
	if _, ok := next(); ok {
		t.Error("it goes on behind the last step")
	}
}

// Sequences, P9.5: what is handed over is the caller's own: to write into it, or to let it grow, changes no other step, of this round or another.
func TestStepsHandsOver(t *testing.T) {
	seq := drat.Steps(some)
	k := 0
	for step := range seq {
		if k >= len(someSteps()) || !equal([]api.Step{step}, someSteps()[k:k+1]) {
			t.Fatalf("step %d, those ahead spoilt: %v", k, step)
		}
		spoil(step.Lits)
		gives(t, "a new round", slices.Collect(seq), someSteps())
		k++
	}
	if k != len(someSteps()) {
		t.Errorf("%d steps, those ahead spoilt", k)
	}
	kept := slices.Collect(seq)
	for k := range kept {
		spoil(kept[k].Lits)
		gives(t, "those behind a spoilt one", kept[k+1:], someSteps()[k+1:])
	}
	kept = slices.Collect(seq)
	for k := range slices.Backward(kept) {
		spoil(kept[k].Lits)
		gives(t, "those ahead of a spoilt one", kept[:k], someSteps()[:k])
	}
}
