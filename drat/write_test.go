package drat_test

import (
	"math"
	"slices"
	"strings"
	"testing"

	"depot/api"
	"depot/drat"
)

// writes: the steps' text.
func writes(t *testing.T, want string, l ...api.Step) {
	t.Helper()
	if s, e := drat.Write(l); s != want || e != api.OK {
		t.Errorf("Write(%v) = %.80q, %d, not %q", l, s, e, want)
	}
}

// P9.2: each of its lines: added and taken out, without literals, with one, with many.
func TestWrite(t *testing.T) {
	writes(t, "1 -2 0\nd 3 0\n0\n", add(1, -2), drop(3), add())
	writes(t, "1 -2 0\nd 3 0\n", add(1, -2), drop(3))
	writes(t, "")
	writes(t, "0\n", add())
	writes(t, "d 0\n", drop())
	writes(t, "0\n0\nd 0\n", add(), add(), drop())
	writes(t, "7 0\n", add(7))
	writes(t, "d -7 0\n", drop(-7))
	writes(t, "d 3 -3 1 3 -1 0\n2 2 0\n", drop(3, -3, 1, 3, -1), add(2, 2))
	writes(t, "9 -8 7 -6 5 0\n", add(9, -8, 7, -6, 5))
	writes(t, "10 -100 1000 -10000 100000 -1000000 0\n", add(10, -100, 1000, -10000, 100000, -1000000))
}

// P9.2: the greatest literal and the least one.
func TestWriteEdges(t *testing.T) {
	writes(t, "1048576 -1048576 0\n", add(api.MaxVar, -api.MaxVar))
	writes(t, "d 1048575 -1 1 0\n", drop(1048575, -1, 1))
}

// P9.2: a step without literals, its list nil or not.
func TestWriteNoLits(t *testing.T) {
	writes(t, "0\nd 0\n0\n", api.Step{}, api.Step{Drop: true, Lits: []int{}}, api.Step{Lits: []int{1}[:0]})
	if s, e := drat.Write([]api.Step{}); s != "" || e != api.OK {
		t.Errorf("Write of no steps = %q, %d", s, e)
	}
}

// P9.2: Lits that aren't sound, wherever they stand; nothing is answered besides.
func TestWriteShape(t *testing.T) {
	for _, bad := range []int{0, api.MaxVar + 1, -api.MaxVar - 1, 1 << 21, math.MaxInt32, math.MinInt32, math.MaxInt, math.MinInt} {
		for _, l := range [][]int{{bad}, {1, bad}, {bad, 1}, {1, -2, bad, 3}} {
			for _, steps := range [][]api.Step{{add(l...)}, {drop(l...)}, {add(1), add(l...)}, {drop(l...), add()}, {add(1, 2), drop(3), add(l...), drop(4)}} {
				if s, e := drat.Write(steps); s != "" || e != api.ErrShape {
					t.Errorf("Write(%v) = %q, %d, not error %d", steps, s, e, api.ErrShape)
				}
			}
		}
	}
}

// P9.2: many steps, and a long one.
func TestWriteLarge(t *testing.T) {
	writes(t, strings.Repeat("d -5 6 0\n0\n", 100000), slices.Repeat([]api.Step{drop(-5, 6), add()}, 100000)...)
	writes(t, "d "+strings.Repeat("-1048576 ", 1<<20)+"0\n", drop(slices.Repeat([]int{-api.MaxVar}, 1<<20)...))
}
