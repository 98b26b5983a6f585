package race_test

import (
	"math"
	"slices"
	"testing"
	"time"

	"depot/api"
	"depot/cnf"
	"depot/race"
	"depot/solve"
)

// soon: Race answers that, and within a minute; else it is left behind.
func soon(t *testing.T, q question, want answer) {
	t.Helper()
	got := make(chan answer, 1)
	go func() { got <- asked(q) }()
	select {
	case a := <-got:
		if !sameAnswer(a, want) {
			t.Fatalf("Race with %d workers: %v, wanted %v", q.workers, a, want)
		}
	case <-time.After(time.Minute):
		t.Fatal("no answer within a minute")
	}
}

// Any argument, P19.2: searches behind the one that answers that would take hours, beside it and on their way: they are called off.
func TestEndlessBehindQuick(t *testing.T) {
	f := wayOut(14)
	o, _ := solve.Solve(f, quick(0))
	soon(t, question{f, []api.Config{quick(0), slow(-1)}, 2}, answer{0, o, api.OK})
	soon(t, question{f, append([]api.Config{quick(math.MaxInt)}, slices.Repeat([]api.Config{slow(math.MaxInt)}, 20)...), 16}, answer{0, o, api.OK})
	soon(t, question{f, []api.Config{slow(0), slow(10), slow(1500), quick(3), slow(1 << 40), slow(-1)}, 64}, answer{3, o, api.OK})
}

// Any argument: very many configs, all but the last one Out; or all.
func TestManyConfigs(t *testing.T) {
	const n = 30000
	l := slices.Repeat([]api.Config{slow(0)}, n)
	for _, workers := range []int{1, 64} {
		answers(t, none(), l, workers, -1, api.Outcome{End: api.Out})
	}
	want, _ := solve.Solve(none(), quick(-1))
	for _, workers := range []int{2, 64} {
		answers(t, none(), append(slices.Clone(l), quick(-1), slow(-1)), workers, n, want)
		answers(t, none(), slices.Concat(l[:5], []api.Config{quick(9)}, l), workers, 5, want)
	}
}

// Any argument: the greatest number of variables, and as many clauses.
func TestManyVariables(t *testing.T) {
	if testing.Short() {
		t.Skip("it takes long")
	}
	const n = api.MaxVar
	f := form(n)
	for v := 1; v < n; v++ {
		f.Clauses = append(f.Clauses, c(-v, v+1))
	}
	l := []api.Config{quick(0), slow(-1), quick(7)}
	want, _ := solve.Solve(f, quick(0))
	answers(t, f, l, 3, 0, want)
	want, _ = solve.Solve(form(n), quick(0))
	answers(t, form(n), l, 64, 0, want)
}

// Any argument: numbers at the edges of what an int can hold.
func TestExtremes(t *testing.T) {
	edges := []int{math.MinInt, math.MinInt + 1, -1, 0, 1, 2, 64, 65, math.MaxInt - 1, math.MaxInt}
	for _, a := range edges {
		for _, b := range edges {
			x := api.Config{Base: a, First: b, Grow: a, Decay: 0.9, Phase: 1 + (a&1 + b&1), Budget: b}
			for _, f := range []api.Formula{form(a, c(b)), form(2, c(a, b)), form(2, c(1, 2)), none()} {
				for _, l := range [][]api.Config{{x}, {x, slow(a)}, {slow(a), quick(b)}, {slow(-1)}, nil} {
					who, o, e := race.Race(f, l, a)
					if e == api.OK && (who < -1 || who >= len(l) || o.End == api.Sat && !cnf.Satisfies(f, o.Model)) {
						t.Errorf("Race(%v, %v, %d) = %d, %v", f, l, a, who, o)
					}
				}
			}
			if l, e := race.Spread(x, a); (e == api.OK) != (len(l) > 0) {
				t.Errorf("Spread(%v, %d) = %v, %d", x, a, l, e)
			}
		}
	}
}
