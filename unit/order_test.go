package unit_test

import (
	"slices"
	"testing"

	"depot/api"
	"depot/unit"
)

// toldOf: what Close, Forces and Probe answer of a formula and facts, as numbers.
func toldOf(f api.Formula, facts []int) []int {
	number := func(yes bool) int {
		if yes {
			return 1
		}
		return 0
	}
	l, clash, e := unit.Close(f, facts)
	out := append([]int{int(e), number(clash), len(l)}, l...)
	for v := 1; v <= f.Vars+2; v++ {
		for _, l := range c(v, -v) {
			yes, e := unit.Forces(f, facts, l)
			out = append(out, number(yes), int(e))
		}
	}
	l, e = unit.Probe(f)
	return append(append(out, int(e)), l...)
}

// shuffled: the list in another order, some of it several times.
func shuffled[E any](draw *drawer, list []E, twice bool) []E {
	out := slices.Clone(list)
	if twice && len(list) > 0 {
		for range 1 + draw.Intn(3) {
			out = append(out, list[draw.Intn(len(list))])
		}
	}
	for k := len(out) - 1; k > 0; k-- {
		j := draw.Intn(k + 1)
		out[k], out[j] = out[j], out[k]
	}
	return out
}

// other: the formula with its clauses in another order, the literals in each in another order, and some several times.
func other(draw *drawer, f api.Formula, twice bool) api.Formula {
	out := form(f.Vars, shuffled(draw, f.Clauses, twice)...)
	for k, clause := range out.Clauses {
		out.Clauses[k] = shuffled(draw, clause, twice)
	}
	return out
}

// P6.2: in whatever order clauses that are false or unit are taken, it comes to one closure, or to a clash: Close's.
func TestOneClosure(t *testing.T) {
	for seed := range uint64(800) {
		draw := drawn(seed)
		f, facts := draw.longer()
		if clashing(facts) {
			continue
		}
		got, clash, _ := unit.Close(f, facts)
		for _, pick := range []func(int) int{least, last, draw.Intn, draw.Intn} {
			end := plain(f, facts, pick)
			if clash != (end.clause >= 0) || !clash && !slices.Equal(byIndex(end.l), got) {
				t.Fatalf("%v; %v: Close answers %v, %v, another order leads to %v", f, facts, got, clash, end)
			}
		}
	}
}

// P6.2: the order of clauses, literals and facts, and several of one, change no answer of Close, Forces and Probe.
func TestOrderSaysNothing(t *testing.T) {
	for seed := range uint64(400) {
		draw := drawn(seed)
		f, facts := draw.longer()
		want := toldOf(f, facts)
		for _, twice := range []bool{false, true, true} {
			g, again := other(draw, f, twice), shuffled(draw, facts, twice)
			if !slices.Equal(toldOf(g, again), want) {
				t.Fatalf("%v; %v is told otherwise than %v; %v", f, facts, g, again)
			}
		}
	}
}

// P6.2: all orders of a few clauses.
func TestAllOrders(t *testing.T) {
	clauses := [][]int{c(-1, 2), c(1, 1), c(-2, 3, 4), c(-4, -2), c(3, -3)}
	for _, further := range [][]int{c(5), c(-3), c(-5, -1), c()} {
		for _, facts := range [][]int{nil, c(5), c(-3), c(5, -5)} {
			all := append(slices.Clone(clauses), further)
			want := toldOf(form(5, all...), facts)
			orders(all, func(in [][]int) {
				if !slices.Equal(toldOf(form(5, in...), facts), want) {
					t.Fatalf("%v; %v is told otherwise than %v", in, facts, all)
				}
			})
		}
	}
}

// orders shows each order of a list.
func orders(list [][]int, show func([][]int)) {
	var from func(k int)
	from = func(k int) {
		if k == len(list) {
			show(slices.Clone(list))
			return
		}
		for j := k; j < len(list); j++ {
			list[k], list[j] = list[j], list[k]
			from(k + 1)
			list[k], list[j] = list[j], list[k]
		}
	}
	from(0)
}
