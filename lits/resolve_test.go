package lits_test

import (
	"iter"
	"math"
	"slices"
	"testing"

	"depot/api"
	"depot/lits"
)

// resolvent is one step of Resolvents.
type resolvent struct {
	v int
	r []int
}

// round: all steps of one round.
func round(seq iter.Seq2[int, []int]) []resolvent {
	var out []resolvent
	for v, r := range seq {
		out = append(out, resolvent{v, r})
	}
	return out
}

func equal(x, y resolvent) bool {
	return x.v == y.v && slices.Equal(x.r, y.r)
}

// resolved: Resolve by its words, of sound lists that meet on v.
func resolved(a, b []int, v int) []int {
	less := func(c []int, l int) []int {
		return slices.DeleteFunc(slices.Clone(c), func(other int) bool { return other == l })
	}
	return tidied(slices.Concat(less(a, v), less(b, -v)))
}

// P1.5: the document's examples, and the edges.
func TestResolve(t *testing.T) {
	for _, x := range []struct {
		a, b []int
		v    int
		want []int
		e    api.Errno
	}{
		{[]int{1, 2}, []int{-1, 3}, 1, []int{2, 3}, api.OK},
		{[]int{3, 1, 1, 3}, []int{2, -1, -1, 2}, 1, []int{2, 3}, api.OK},
		{[]int{1}, []int{-1}, 1, nil, api.OK},
		{[]int{1, -1}, []int{1, -1}, 1, []int{1, -1}, api.OK},
		{[]int{api.MaxVar, 1}, []int{-api.MaxVar}, api.MaxVar, []int{1}, api.OK},
		{[]int{-1, 3}, []int{1, 2}, 1, nil, api.ErrPivot},
		{[]int{1}, []int{1}, 1, nil, api.ErrPivot},
		{[]int{-1}, []int{-1}, 1, nil, api.ErrPivot},
		{[]int{1, 2}, []int{-1, 3}, 7, nil, api.ErrPivot},
		{nil, nil, 1, nil, api.ErrPivot},
		{nil, []int{-1}, 1, nil, api.ErrPivot},
		{[]int{1}, nil, 1, nil, api.ErrPivot},
		{[]int{1, 0}, []int{-1}, 1, nil, api.ErrShape},
		{[]int{1}, []int{-1, beyond}, 1, nil, api.ErrShape},
	} {
		got, e := lits.Resolve(x.a, x.b, x.v)
		if e != x.e {
			t.Errorf("Resolve(%v, %v, %d): error %d, not %d", x.a, x.b, x.v, e, x.e)
		}
		same(t, "Resolve", got, x.want)
	}
}

// P1.5: ErrShape goes ahead of ErrPivot, whichever of the three is wrong.
func TestResolveWrong(t *testing.T) {
	for _, l := range noLiterals {
		for _, x := range [][2][]int{{{1, l}, {-1}}, {{1}, {-1, l}}, {{2, l}, {3}}, {{2}, {3, l}}} {
			if got, e := lits.Resolve(x[0], x[1], 1); e != api.ErrShape || len(got) != 0 {
				t.Errorf("Resolve(%v, %v, 1): %v, error %d", x[0], x[1], got, e)
			}
		}
	}
	for _, v := range []int{0, -1, -2, -api.MaxVar, beyond, -beyond, math.MaxInt, math.MinInt} {
		for _, x := range [][2][]int{{{1, -1, 2}, {1, -1, -2}}, {nil, nil}, {{v}, {v}}, {{v}, {-v}}} {
			if got, e := lits.Resolve(x[0], x[1], v); e != api.ErrShape || len(got) != 0 {
				t.Errorf("Resolve(%v, %v, %d): %v, error %d", x[0], x[1], v, got, e)
			}
		}
	}
}

// P1.5 and P1.6 by their words.
func TestResolventsByWords(t *testing.T) {
	all := append(lists(3, 1, -1, 2, -2), lists(2, 1, -3, api.MaxVar, -api.MaxVar, 0)...)
	for _, a := range all {
		for _, b := range all {
			var want []resolvent
			for _, v := range []int{1, 2, 3, api.MaxVar} {
				got, e := lits.Resolve(a, b, v)
				switch {
				case !allLiterals(a) || !allLiterals(b):
					if e != api.ErrShape || len(got) != 0 {
						t.Fatalf("Resolve(%v, %v, %d): %v, error %d", a, b, v, got, e)
					}
					continue
				case !slices.Contains(a, v) || !slices.Contains(b, -v):
					if e != api.ErrPivot || len(got) != 0 {
						t.Fatalf("Resolve(%v, %v, %d): %v, error %d", a, b, v, got, e)
					}
				default:
					r := resolved(a, b, v)
					if e != api.OK || !slices.Equal(got, r) {
						t.Fatalf("Resolve(%v, %v, %d): %v, error %d, not %v", a, b, v, got, e, r)
					}
					want = append(want, resolvent{v, r})
				}
				if slices.Contains(b, v) && slices.Contains(a, -v) {
					want = append(want, resolvent{v, resolved(b, a, v)})
				}
			}
			if got := round(lits.Resolvents(a, b)); !slices.EqualFunc(got, want, equal) {
				t.Fatalf("Resolvents(%v, %v): %v, not %v", a, b, got, want)
			}
		}
	}
}

// P1.6: the document's example, the order, and a variable that comes twice.
func TestResolvents(t *testing.T) {
	for _, x := range []struct {
		a, b []int
		want []resolvent
	}{
		{[]int{1, -2, 4}, []int{-1, 2, 4}, []resolvent{{1, []int{2, -2, 4}}, {2, []int{1, -1, 4}}}},
		{[]int{4, -2, 1}, []int{2, 4, -1}, []resolvent{{1, []int{2, -2, 4}}, {2, []int{1, -1, 4}}}},
		{[]int{1, -1}, []int{1, -1}, []resolvent{{1, []int{1, -1}}, {1, []int{1, -1}}}},
		{[]int{1, -1, 2}, []int{-1, 1, 3}, []resolvent{{1, []int{1, -1, 2, 3}}, {1, []int{1, -1, 2, 3}}}},
		{[]int{1, 1}, []int{-1, -1}, []resolvent{{1, nil}}},
		{[]int{-1}, []int{1}, []resolvent{{1, nil}}},
		{[]int{1}, []int{2}, nil},
		{[]int{1, -1}, nil, nil},
		{nil, nil, nil},
	} {
		if got := round(lits.Resolvents(x.a, x.b)); !slices.EqualFunc(got, x.want, equal) {
			t.Errorf("Resolvents(%v, %v): %v, not %v", x.a, x.b, got, x.want)
		}
	}
}

// P1.6: nothing of lists that aren't sound.
func TestResolventsUnsound(t *testing.T) {
	for _, l := range noLiterals {
		for _, x := range [][2][]int{{{1, l}, {-1}}, {{1}, {l, -1}}, {{1, l}, {-1, l}}} {
			if got := round(lits.Resolvents(x[0], x[1])); got != nil {
				t.Errorf("Resolvents(%v, %v): %v", x[0], x[1], got)
			}
		}
	}
}

// Any argument: lists as long as there are literals come to an end soon, also where each literal is a pivot.
func TestResolveLong(t *testing.T) {
	var a, b []int
	for v := api.MaxVar; v > 0; v-- {
		a, b = append(a, v), append(b, -v)
	}
	r, e := lits.Resolve(a, b, api.MaxVar)
	if e != api.OK || len(r) != 2*api.MaxVar-2 || r[len(r)-1] != 1-api.MaxVar {
		t.Errorf("Resolve: %d literals, error %d", len(r), e)
	}
	n := 0
	for v, r := range lits.Resolvents(a, b) {
		n++
		if v != n || len(r) != 2*api.MaxVar-2 {
			t.Errorf("step %d: the variable %d, %d literals", n, v, len(r))
		}
		if n == 2 {
			break
		}
	}
}
