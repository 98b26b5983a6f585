package lits_test

import (
	"math"
	"testing"

	"depot/api"
	"depot/lits"
)

// noLiterals: what is no literal, at the edges and far out.
var noLiterals = []int{0, api.MaxVar + 1, -api.MaxVar - 1, math.MaxInt, math.MinInt, math.MinInt + 1}

// P1.1, at the edges that the document names.
func TestLiteral(t *testing.T) {
	for _, x := range []struct{ l, v, index int }{
		{1, 1, 0},
		{-1, 1, 1},
		{2, 2, 2},
		{-2, 2, 3},
		{3, 3, 4},
		{-7, 7, 13},
		{1048575, 1048575, 2097148},
		{1048576, 1048576, 2097150},
		{-1048576, 1048576, 2097151},
	} {
		if !lits.Formed(x.l) {
			t.Errorf("Formed(%d): false", x.l)
		}
		if got := lits.Var(x.l); got != x.v {
			t.Errorf("Var(%d) = %d, not %d", x.l, got, x.v)
		}
		if got := lits.Index(x.l); got != x.index {
			t.Errorf("Index(%d) = %d, not %d", x.l, got, x.index)
		}
		if got := lits.At(x.index); got != x.l {
			t.Errorf("At(%d) = %d, not %d", x.index, got, x.l)
		}
	}
}

// P1.1, of what is no literal and no Index.
func TestNoLiteral(t *testing.T) {
	for _, l := range noLiterals {
		if lits.Formed(l) {
			t.Errorf("Formed(%d): true", l)
		}
		if got := lits.Var(l); got != 0 {
			t.Errorf("Var(%d) = %d, not 0", l, got)
		}
		if got := lits.Index(l); got != -1 {
			t.Errorf("Index(%d) = %d, not -1", l, got)
		}
	}
	for _, i := range []int{-1, -2, 2097152, 2097153, math.MaxInt, math.MinInt} {
		if got := lits.At(i); got != 0 {
			t.Errorf("At(%d) = %d, not 0", i, got)
		}
	}
}

// P1.7: At and Index lead there and back; P1.1 in the order 1, -1, 2, -2, ..
func TestThereAndBack(t *testing.T) {
	want := 1
	for i := range 2 * api.MaxVar {
		l := lits.At(i)
		if l != want || lits.Index(l) != i || !lits.Formed(l) || lits.Var(l) != i/2+1 {
			t.Fatalf("At(%d) = %d, not %d; back at %d, of the variable %d", i, l, want, lits.Index(l), lits.Var(l))
		}
		want = -want
		if want > 0 {
			want++
		}
	}
}
