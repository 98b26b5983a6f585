package trim_test

import (
	"math"
	"slices"
	"testing"

	"depot/api"
	"depot/trim"
)

// only: Only answers the formula of these clauses.
func only(t *testing.T, f api.Formula, core []int, clauses ...[]int) {
	t.Helper()
	g, e := trim.Only(f, core)
	if e != api.OK || g.Vars != f.Vars || !slices.EqualFunc(g.Clauses, clauses, slices.Equal[[]int]) {
		t.Errorf("Only(%s, %s) = %s, error %d, wanted %s", cut(f), cut(core), cut(g), e, cut(clauses))
	}
}

// onlyRefuses: Only answers an error, and nothing else.
func onlyRefuses(t *testing.T, f api.Formula, core []int, want api.Errno) {
	t.Helper()
	if g, e := trim.Only(f, core); e != want || g.Vars != 0 || len(g.Clauses) > 0 {
		t.Errorf("Only(%s, %s) = %s, error %d, wanted error %d", cut(f), cut(core), cut(g), e, want)
	}
}

// P12.2: a formula that isn't well shaped is refused, whatever the core is.
func TestOnlyNotWellShaped(t *testing.T) {
	for _, f := range misshaped() {
		for _, core := range [][]int{nil, c(0), c(0, 1), c(1, 0), c(-1), c(99)} {
			onlyRefuses(t, f, core, api.ErrShape)
		}
	}
}

// P12.2: the clauses of the core, in its order, as they stand, over as many variables.
func TestOnly(t *testing.T) {
	f := over(c(1), c(2), c(3))
	only(t, f, c(0, 2), c(1), c(3))
	only(t, f, c(0, 1, 2), c(1), c(2), c(3))
	only(t, f, c(1), c(2))
	only(t, f, nil)
	only(t, f, c())
	only(t, form(7), nil)
	only(t, form(0), nil)
	f = form(api.MaxVar, c(2, 1, 2), c(), c(-3, 3), c(2, 1, 2), c(api.MaxVar, -1))
	only(t, f, c(0, 1, 2, 3, 4), f.Clauses...)
	only(t, f, c(1, 3, 4), c(), c(2, 1, 2), c(api.MaxVar, -1))
	only(t, f, c(2), c(-3, 3))
}

// P12.2: a core that doesn't rise, or that has a number twice, below 0 or too great, is refused.
func TestOnlyOutOfRange(t *testing.T) {
	f := over(c(1), c(2), c(3))
	for _, core := range [][]int{c(2, 0), c(0, 0), c(3), c(-1), c(0, 1, 1), c(0, 2, 1), c(1, 2, 3), c(0, 1, 2, 2), c(-1, 0), c(0, -1), c(2, 3), c(0, 3, 1), c(math.MaxInt), c(math.MinInt), c(0, math.MaxInt), c(1, math.MinInt), c(0, 1, 2, 3)} {
		onlyRefuses(t, f, core, api.ErrRange)
	}
	for _, core := range [][]int{c(0), c(-1), c(1), c(0, 0)} {
		onlyRefuses(t, form(5), core, api.ErrRange)
	}
}

// P12.2: of all short lists of numbers those that rise are taken, each with its clauses.
func TestOnlyAllShort(t *testing.T) {
	f := over(c(1), c(2, 2), c(), c(-1, 2))
	var longer func(core []int)
	longer = func(core []int) {
		if rises(core, 4) {
			only(t, f, core, pick(f, core)...)
		} else {
			onlyRefuses(t, f, core, api.ErrRange)
		}
		if len(core) == 5 {
			return
		}
		for number := -1; number <= 4; number++ {
			longer(append(slices.Clone(core), number))
		}
	}
	longer(nil)
}

// within: Within answers that.
func within(t *testing.T, a, b []api.Step, want bool) {
	t.Helper()
	if trim.Within(a, b) != want {
		t.Errorf("Within(%s, %s) = %v", cut(a), cut(b), !want)
	}
}

// P12.3: all, none, some left out.
func TestWithin(t *testing.T) {
	b := row(add(1), drop(1), add(2), add(), drop(), add(1, 2), add(1))
	within(t, b, b, true)
	within(t, nil, b, true)
	within(t, row(), b, true)
	within(t, nil, nil, true)
	within(t, row(), nil, true)
	within(t, b, nil, false)
	within(t, b[1:], b, true)
	within(t, b, b[1:], false)
	within(t, b[:6], b, true)
	within(t, row(add(1), add()), b, true)
	within(t, row(drop(1), drop(), add(1)), b, true)
	within(t, row(add(1), add(1)), b, true)
	within(t, row(add(1), add(1), add(1)), b, false)
	within(t, row(add(1), add(1)), row(add(1)), false)
	for k := range b {
		within(t, but(b, k), b, true)
		within(t, b, but(b, k), false)
	}
}

// P12.3: the order of the steps counts, and so does that of the numbers in a step, and how often one stands there.
func TestWithinOrder(t *testing.T) {
	within(t, row(add(2), add(1)), row(add(1), add(2)), false)
	within(t, row(add(2), add(1)), row(add(1), add(2), add(1)), true)
	within(t, row(add(1, 2)), row(add(2, 1)), false)
	within(t, row(add(1, 2)), row(add(2, 1), add(1, 2)), true)
	within(t, row(add(1)), row(add(1, 1)), false)
	within(t, row(add(1, 1)), row(add(1)), false)
	within(t, row(add()), row(add(1)), false)
	within(t, row(add(1)), row(add(-1)), false)
	within(t, row(add(1)), row(add(1, 2), add(2, 1)), false)
}

// P12.3: a step with Drop is another one than that without.
func TestWithinDrop(t *testing.T) {
	within(t, row(add(1)), row(drop(1)), false)
	within(t, row(drop(1)), row(add(1)), false)
	within(t, row(drop(1)), row(add(1), drop(1)), true)
	within(t, row(drop()), row(add()), false)
	within(t, row(add()), row(drop()), false)
	within(t, row(drop(), add()), row(drop(), add()), true)
	within(t, row(add(), drop()), row(drop(), add()), false)
}

// P12.3: a list without elements is one, nil or not; and lists that aren't sound are held against each other as all others.
func TestWithinAnyLists(t *testing.T) {
	within(t, row(api.Step{Lits: nil}), row(api.Step{Lits: []int{}}), true)
	within(t, row(api.Step{Lits: []int{}}), row(api.Step{Lits: nil}), true)
	for k, l := range far {
		within(t, row(add(l)), row(add(l)), true)
		within(t, row(add(1, l), drop(l)), row(add(1, l), add(2), drop(l)), true)
		within(t, row(add(1, l)), row(add(l, 1)), false)
		within(t, row(add(l)), row(drop(l)), false)
		within(t, row(add()), row(add(l)), false)
		within(t, row(add(l)), row(add()), false)
		within(t, row(add(l)), row(add(far[(k+1)%len(far)])), false)
	}
}

// P12.3: of all short lists it is what the chapter says, and of drawn ones.
func TestWithinAllShort(t *testing.T) {
	steps := row(add(), add(1), drop(1), add(0))
	lists := [][]api.Step{nil}
	for from := 0; len(lists) < 300; {
		to := len(lists)
		for _, list := range lists[from:to] {
			for _, step := range steps {
				lists = append(lists, append(slices.Clone(list), step))
			}
		}
		from = to
	}
	some := 0
	for _, a := range lists {
		for _, b := range lists {
			want := left(a, b)
			within(t, a, b, want)
			if want {
				some++
			}
		}
	}
	if some < 1000 {
		t.Errorf("only %d within another one", some)
	}
	for seed := range uint64(2000) {
		draw := drawn(seed)
		var a, b []api.Step
		for range draw.Intn(14) {
			step := steps[draw.Intn(len(steps))]
			b = append(b, step)
			if draw.Intn(3) > 0 {
				a = append(a, step)
			}
		}
		within(t, a, b, true)
		if draw.Intn(2) == 0 {
			a = shuffled(draw, a)
		}
		within(t, a, b, left(a, b))
		within(t, b, a, left(b, a))
	}
}
