package trail_test

import (
	"math"
	"slices"
	"testing"

	"depot/api"
)

// clauses: all lists of up to so many of these numbers.
func clauses(most int, numbers ...int) [][]int {
	all := [][]int{nil}
	for from := 0; most > 0; most-- {
		to := len(all)
		for _, c := range all[from:to] {
			for _, l := range numbers {
				all = append(all, append(slices.Clone(c), l))
			}
		}
		from = to
	}
	return all
}

// P5.6: of some's trail 2, -5, -1, 3, -6, 4 and -7 are true, and 8 is open; how clauses stand under it.
func TestLook(t *testing.T) {
	x, _ := some(t)
	for _, c := range []struct {
		how  int8
		lit  int
		lits []int
	}{
		{-1, 0, nil},
		{-1, 0, []int{}},
		{-1, 0, []int{1}},
		{-1, 0, []int{1, -2, 5, -3, 6, -4, 7}},
		{-1, 0, []int{1, 1, 1}},
		{2, 8, []int{8}},
		{2, -8, []int{-8}},
		{2, 8, []int{8, 8}},
		{2, -8, []int{1, -8, -2, -8, 1}},
		{2, 8, []int{8, 1}},
		{0, 0, []int{8, -8}},
		{0, 0, []int{-8, 8}},
		{0, 0, []int{8, 1, 8, -8}},
		{0, 0, []int{-8, 1, 8, -8, -8}},
		{1, 2, []int{2}},
		{1, 4, []int{4, 3, 2}},
		{1, 3, []int{3, 2, 4}},
		{1, -7, []int{7, -7, 2}},
		{1, -1, []int{1, -1}},
		{1, -1, []int{-1, 1}},
		{1, 2, []int{8, -8, 2}},
		{1, 3, []int{8, -8, 1, 3, 3, 2}},
		{1, 2, []int{8, 2, 8, -8}},
	} {
		looks(t, x, c.how, c.lit, c.lits...)
	}
}

// P5.6: with more than one variable open.
func TestLookOpen(t *testing.T) {
	x, _ := with(t, 4, item{1, 1, decision})
	looks(t, x, 0, 0, 2, 3)
	looks(t, x, 0, 0, 3, 2, 3)
	looks(t, x, 0, 0, 2, 3, 4, -2)
	looks(t, x, 0, 0, -1, 2, -1, 4)
	looks(t, x, 1, 1, 2, 3, 4, 1)
	looks(t, x, 1, 1, 2, -2, 1)
	looks(t, x, 2, -3, -1, -3, -3)
}

// P5.6: what isn't sound, or isn't the trail's, is 0 and 0, wherever it stands, and whatever else does.
func TestLookRefuses(t *testing.T) {
	x, p := some(t)
	for _, bad := range append([]int{0, 9, -9, 10, api.MaxVar, -api.MaxVar}, far...) {
		for _, c := range [][]int{{bad}, {bad, 2}, {2, bad}, {1, bad}, {bad, 8}, {8, bad}, {2, 1, bad, 8}, {bad, bad}, {bad, -5, 2}, {1, -2, 5, bad}} {
			looks(t, x, 0, 0, c...)
		}
	}
	holds(t, x, p)
}

// P5.6 by its words: all short lists, under all rows of two variables and one that stays open.
func TestLookByWords(t *testing.T) {
	all := append(clauses(4, 1, -1, 2, -2, 3, -3), clauses(3, 1, -2, 3, 0, 4, -4, math.MinInt)...)
	for _, row := range [][]item{
		nil,
		{{1, 0, 3}}, {{-1, 1, decision}},
		{{1, 0, 0}, {2, 0, 1}}, {{2, 1, decision}, {-1, 1, 7}},
		{{-1, 1, decision}, {2, 2, decision}}, {{-2, 0, 4}, {-1, 1, decision}},
	} {
		x, p := with(t, 3, row...)
		for _, c := range all {
			n, l := p.look(c)
			looks(t, x, n, l, c...)
		}
		holds(t, x, p)
	}
}

// P5.6: a clause that is long, its literals many times.
func TestLookLong(t *testing.T) {
	x, _ := with(t, 1000, item{1, 1, decision})
	var long []int
	for range 30000 {
		long = append(long, -1, -2)
	}
	looks(t, x, 2, -2, long...)
	looks(t, x, 0, 0, append(slices.Clone(long), 999)...)
	looks(t, x, 1, 1, append(slices.Clone(long), 999, 1)...)
	looks(t, x, 0, 0, append(slices.Clone(long), 1, 1001)...)
}
