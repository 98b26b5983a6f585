package trail_test

import (
	"math"
	"slices"
	"testing"

	"depot/api"
	"depot/trail"
)

// P5.1: a new trail is on level 0, and all its variables are open.
func TestNew(t *testing.T) {
	for _, vars := range []int{0, 1, 2, 7, 100} {
		x, p := with(t, vars)
		holds(t, x, p)
	}
}

// P5.1: the most variables that a trail may have.
func TestNewOfMaxVar(t *testing.T) {
	x := made(t, api.MaxVar)
	p := &plain{vars: api.MaxVar}
	if x.Level() != 0 || len(x.Lits()) != 0 || len(x.Marks()) != 0 {
		t.Errorf("Level %d, Lits %v, Marks %v", x.Level(), x.Lits(), x.Marks())
	}
	for l := -api.MaxVar - 2; l <= api.MaxVar+2; l++ {
		asks(t, x, p, l)
	}
	looks(t, x, 2, -api.MaxVar, -api.MaxVar)
	looks(t, x, 0, 0, api.MaxVar+1)
	decides(t, x, p, api.MaxVar)
	implies(t, x, p, 1-api.MaxVar, 3)
	for _, l := range []int{api.MaxVar, -api.MaxVar, api.MaxVar - 1, api.MaxVar - 2, api.MaxVar + 1, -api.MaxVar - 1, 1, -1} {
		asks(t, x, p, l)
		asks(t, x, p, -l)
	}
	looks(t, x, -1, 0, -api.MaxVar, api.MaxVar-1)
	looks(t, x, 1, api.MaxVar, 5, api.MaxVar)
	for _, l := range []int{api.MaxVar + 1, -api.MaxVar - 1, api.MaxVar, -api.MaxVar} {
		decides(t, x, p, l)
		implies(t, x, p, l, 1)
	}
	goesBack(t, x, p, 0)
	asks(t, x, p, api.MaxVar)
	asks(t, x, p, api.MaxVar-1)
}

// P5.1: what is refused.
func TestNewRefuses(t *testing.T) {
	for _, vars := range []int{-1, -2, -api.MaxVar, math.MinInt, math.MinInt + 1, api.MaxVar + 1, api.MaxVar + 2, 2 * api.MaxVar, math.MaxInt} {
		if x, e := trail.New(vars); x != nil || e != api.ErrRange {
			t.Errorf("New(%d): %v, error %d", vars, x != nil, e)
		}
	}
}

// P5.1 to P5.6: a trail without variables.
func TestNoVariables(t *testing.T) {
	x, p := with(t, 0)
	for _, l := range append([]int{0, 1, -1, api.MaxVar}, far...) {
		if e := x.Decide(l); e != api.ErrShape {
			t.Errorf("Decide(%d) = %d", l, e)
		}
		for _, reason := range []int{-1, 0, 1} {
			if e := x.Imply(l, reason); e != api.ErrShape {
				t.Errorf("Imply(%d, %d) = %d", l, reason, e)
			}
		}
		looks(t, x, 0, 0, l)
		asks(t, x, p, l)
	}
	looks(t, x, -1, 0)
	for _, level := range []int{-1, 0, 1} {
		goesBack(t, x, p, level)
	}
	holds(t, x, p)
}

// The chapter's examples, one call behind the other.
func TestExamples(t *testing.T) {
	x, p := with(t, 4, item{2, 0, 7}, item{-1, 1, decision}, item{3, 1, 0})
	if got := x.Lits(); !slices.Equal(got, []int{2, -1, 3}) || x.Level() != 1 || !slices.Equal(x.Marks(), []int{1}) {
		t.Errorf("Lits %v, Level %d, Marks %v", got, x.Level(), x.Marks())
	}
	values, levels, reasons := []int8{}, []int{}, []int{}
	for _, l := range []int{2, -2, 1, 4, 5, 0} {
		values = append(values, x.Value(l))
	}
	for _, v := range []int{2, 1, 4, -1} {
		levels = append(levels, x.LevelOf(v))
	}
	for _, v := range []int{2, 1, 3, 9} {
		reasons = append(reasons, x.Reason(v))
	}
	if !slices.Equal(values, []int8{1, -1, -1, 0, 0, 0}) || !slices.Equal(levels, []int{0, 1, -1, -1}) || !slices.Equal(reasons, []int{7, -1, 0, -1}) {
		t.Errorf("values %v, levels %v, reasons %v", values, levels, reasons)
	}
	errnos := []api.Errno{x.Decide(3), x.Decide(-3), x.Decide(5), x.Decide(0), x.Imply(1, -1), x.Imply(4, -1)}
	if !slices.Equal(errnos, []api.Errno{api.ErrSet, api.ErrSet, api.ErrShape, api.ErrShape, api.ErrSet, api.ErrRange}) {
		t.Errorf("refused with %v", errnos)
	}
	looks(t, x, 2, 4, 1, 4)
	looks(t, x, 2, 4, 1, 4, 4)
	looks(t, x, 0, 0, 4, -4)
	looks(t, x, -1, 0)
	looks(t, x, -1, 0, 1, -2)
	looks(t, x, 1, 3, 4, 3, 2)
	looks(t, x, 0, 0, 1, 5)
	decides(t, x, p, 4)
	for _, level := range []int{3, -1, 2} {
		goesBack(t, x, p, level)
	}
	if out, e := x.Back(0); !slices.Equal(out, []int{4, 3, -1}) || e != api.OK {
		t.Errorf("Back(0) = %v, %d", out, e)
	}
	if !slices.Equal(x.Lits(), []int{2}) || x.Level() != 0 || x.Value(3) != 0 || x.Decide(3) != api.OK || !slices.Equal(x.Marks(), []int{1}) {
		t.Errorf("behind Back: Lits %v, Level %d, Marks %v", x.Lits(), x.Level(), x.Marks())
	}
}

// P5.2, P5.3, P5.5: each decision begins a level of its own, wherever the literal is.
func TestDecide(t *testing.T) {
	x, p := with(t, 5)
	for n, l := range []int{3, -1, 5, -4, 2} {
		if e := x.Decide(l); e != api.OK || x.Level() != n+1 {
			t.Fatalf("Decide(%d) = %d, on level %d", l, e, x.Level())
		}
		p.row = append(p.row, item{l, n + 1, decision})
		holds(t, x, p)
	}
}

// P5.2, P5.3: what is implied stands on the present level, with its reason, 0 and the greatest among them.
func TestImply(t *testing.T) {
	x, p := with(t, 7)
	for _, i := range []item{{-3, 0, 5}, {1, 0, 0}, {-7, 0, 5}, {2, 1, decision}, {-4, 1, math.MaxInt}, {6, 2, decision}, {5, 2, 1}} {
		if i.reason == decision {
			decides(t, x, p, i.lit)
		} else {
			implies(t, x, p, i.lit, i.reason)
		}
		if p.row[len(p.row)-1] != i {
			t.Fatalf("%v, wanted %v", p.row[len(p.row)-1], i)
		}
		holds(t, x, p)
	}
}

// P5.3: a decision of level 0 there is none: all that stands there has its reason.
func TestLevelZero(t *testing.T) {
	x, p := with(t, 3, item{1, 0, 4}, item{-2, 0, 0})
	if x.Reason(1) != 4 || x.Reason(2) != 0 || x.LevelOf(1) != 0 || x.LevelOf(2) != 0 || len(x.Marks()) != 0 {
		t.Errorf("reasons %d, %d; levels %d, %d; Marks %v", x.Reason(1), x.Reason(2), x.LevelOf(1), x.LevelOf(2), x.Marks())
	}
	holds(t, x, p)
}

// P5.3: where two variables got the same reason, and a decision stands ahead of all, both keep theirs.
func TestReasons(t *testing.T) {
	x, _ := with(t, 4, item{4, 1, decision}, item{-3, 1, 9}, item{2, 1, 9})
	for v, want := range []int{-1, -1, 9, 9, -1, -1} {
		if got := x.Reason(v); got != want {
			t.Errorf("Reason(%d) = %d, wanted %d", v, got, want)
		}
		if got := x.Reason(-v); got != -1 {
			t.Errorf("Reason(%d) = %d", -v, got)
		}
	}
}

// P5.2: what is refused, each with its error; and nothing has been done.
func TestRefusals(t *testing.T) {
	x, p := some(t)
	for _, l := range append([]int{0, 9, -9, 10, -10, api.MaxVar, -api.MaxVar}, far...) {
		wantRefused(t, x, l, api.ErrShape)
		holds(t, x, p)
	}
	for l := 1; l <= 7; l++ {
		wantRefused(t, x, l, api.ErrSet)
		wantRefused(t, x, -l, api.ErrSet)
		holds(t, x, p)
	}
	for _, reason := range []int{-1, -2, -api.MaxVar, math.MinInt, math.MinInt + 1} {
		for _, l := range []int{8, -8} {
			if e := x.Imply(l, reason); e != api.ErrRange {
				t.Errorf("Imply(%d, %d) = %d", l, reason, e)
			}
			holds(t, x, p)
		}
	}
	implies(t, x, p, -8, 6)
	holds(t, x, p)
}

// wantRefused: neither Decide nor Imply takes the literal, whatever the reason.
func wantRefused(t *testing.T, x *trail.Trail, l int, want api.Errno) {
	t.Helper()
	if e := x.Decide(l); e != want {
		t.Errorf("Decide(%d) = %d, wanted %d", l, e, want)
	}
	for _, reason := range []int{0, 1, math.MaxInt, -1, math.MinInt} {
		if e := x.Imply(l, reason); e != want {
			t.Errorf("Imply(%d, %d) = %d, wanted %d", l, reason, e, want)
		}
	}
}

// Objects: two of them know nothing of one another.
func TestTwoTrails(t *testing.T) {
	x, p := some(t)
	y, q := with(t, 3, item{-2, 1, decision})
	holds(t, x, p)
	holds(t, y, q)
	goesBack(t, x, p, 1)
	implies(t, y, q, 3, 2)
	holds(t, x, p)
	holds(t, y, q)
}
