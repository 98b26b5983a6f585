package trail_test

import (
	"math"
	"slices"
	"testing"

	"depot/api"
)

// P5.4: each level is left for each below it.
func TestBack(t *testing.T) {
	for level, want := range [][]int{{-7, 4, -6, 3, -1}, {-7, 4, -6}, {-7, 4}, nil} {
		x, p := some(t)
		out, e := x.Back(level)
		if !slices.Equal(out, want) || e != api.OK {
			t.Fatalf("Back(%d) = %v, %d; wanted %v", level, out, e, want)
		}
		p.row = p.row[:len(p.row)-len(want)]
		if x.Level() != level {
			t.Fatalf("Back(%d) leads to level %d", level, x.Level())
		}
		holds(t, x, p)
		goesBack(t, x, p, level)
		holds(t, x, p)
	}
}

// P5.4: from level to level, one behind the other.
func TestBackByLevels(t *testing.T) {
	x, p := some(t)
	for level := 3; level >= 0; level-- {
		goesBack(t, x, p, level)
		holds(t, x, p)
		goesBack(t, x, p, level+1)
		holds(t, x, p)
	}
	if got := x.Lits(); !slices.Equal(got, []int{2, -5}) {
		t.Errorf("on level 0: %v", got)
	}
}

// P5.4: what stands on level 0 is never taken out.
func TestBackToZero(t *testing.T) {
	x, p := with(t, 3, item{1, 0, 2}, item{-3, 0, 0})
	if out, e := x.Back(0); len(out) != 0 || e != api.OK {
		t.Errorf("Back(0) = %v, %d", out, e)
	}
	holds(t, x, p)
	none, q := with(t, 3)
	goesBack(t, none, q, 0)
	holds(t, none, q)
}

// P5.4: levels that there aren't.
func TestBackRefuses(t *testing.T) {
	x, p := some(t)
	for range 2 {
		for _, level := range []int{-1, -2, math.MinInt, math.MinInt + 1, x.Level() + 1, x.Level() + 2, 1 << 40, math.MaxInt} {
			if out, e := x.Back(level); len(out) != 0 || e != api.ErrRange {
				t.Errorf("Back(%d) = %v, %d", level, out, e)
			}
			holds(t, x, p)
		}
		goesBack(t, x, p, 0)
	}
}

// P5.4, P5.2: what was taken out is open: it and its opposite can be laid again, decided or implied, on other levels.
func TestBackAndOn(t *testing.T) {
	x, p := some(t)
	goesBack(t, x, p, 1)
	implies(t, x, p, 6, 12)
	implies(t, x, p, -4, 0)
	holds(t, x, p)
	decides(t, x, p, 7)
	implies(t, x, p, 8, 3)
	holds(t, x, p)
	goesBack(t, x, p, 0)
	decides(t, x, p, -4)
	decides(t, x, p, 3)
	implies(t, x, p, 1, 1)
	holds(t, x, p)
}

// P5.3, P5.4: what was a decision once is none where it is implied, and the other way round.
func TestDecisionsAndReasonsChange(t *testing.T) {
	x, p := with(t, 2, item{1, 1, decision}, item{2, 1, 5})
	goesBack(t, x, p, 0)
	decides(t, x, p, 2)
	implies(t, x, p, 1, 6)
	if x.Reason(2) != -1 || x.Reason(1) != 6 {
		t.Errorf("reasons %d and %d", x.Reason(2), x.Reason(1))
	}
	holds(t, x, p)
	goesBack(t, x, p, 0)
	implies(t, x, p, 2, 0)
	decides(t, x, p, -1)
	holds(t, x, p)
}

// P5.4: many literals on many levels, and all the way back.
func TestBackFar(t *testing.T) {
	const vars = 20000
	x := made(t, vars)
	var want []int
	for v := 1; v <= vars; v += 2 {
		if x.Decide(v) != api.OK || x.Imply(-v-1, v) != api.OK {
			t.Fatal(v)
		}
		want = append(want, v, -v-1)
	}
	if x.Level() != vars/2 || !slices.Equal(x.Lits(), want) || x.LevelOf(vars) != vars/2 || x.Reason(vars) != vars-1 {
		t.Fatalf("Level %d, LevelOf(%d) %d", x.Level(), vars, x.LevelOf(vars))
	}
	for k, at := range x.Marks() {
		if at != 2*k {
			t.Fatalf("the level %d begins at %d", k+1, at)
		}
	}
	out, e := x.Back(1)
	gone := slices.Clone(want[2:])
	slices.Reverse(gone)
	if !slices.Equal(out, gone) || e != api.OK {
		t.Fatalf("Back(1): %d literals, error %d", len(out), e)
	}
	holds(t, x, &plain{vars, []item{{1, 1, decision}, {-2, 1, 1}}})
}
