package race_test

import (
	"slices"
	"testing"

	"depot/api"
	"depot/race"
	"depot/solve"
)

// P19.1, example 1: one config.
func TestOneConfig(t *testing.T) {
	free := api.Config{Base: 1, First: 1, Grow: 1, Decay: 1, Phase: api.PhaseFalse, Budget: -1}
	for _, f := range []api.Formula{form(2, c(1, 2)), none(), form(0), form(0, c()), form(3), pigeons(4)} {
		want, _ := solve.Solve(f, free)
		for _, workers := range crews() {
			answers(t, f, []api.Config{free}, workers, 0, want)
		}
	}
	if who, o, e := race.Race(form(2, c(1, 2)), []api.Config{free}, 1); who != 0 || o.End != api.Sat || e != api.OK {
		t.Errorf("%d, %v, %d", who, o, e)
	}
}

// P19.1, example 2: the first config is Out, and the second one isn't; or both are.
func TestSecondConfig(t *testing.T) {
	stopped, free := slow(0), quick(-1)
	want, _ := solve.Solve(none(), free)
	if want.End != api.Unsat {
		t.Fatalf("Solve = %v", want)
	}
	for _, workers := range crews() {
		answers(t, none(), []api.Config{stopped, free}, workers, 1, want)
		answers(t, none(), []api.Config{stopped, stopped}, workers, -1, api.Outcome{End: api.Out})
	}
}

// P19.1: where all are Out there is no model, no proof and no conflict, however many the searches had.
func TestAllOut(t *testing.T) {
	f := pigeons(5)
	for n := 1; n <= 70; n += 3 {
		var l []api.Config
		for k := range n {
			l = append(l, slow(k%9), quick(7))
		}
		for _, workers := range crews() {
			answers(t, f, l, workers, -1, api.Outcome{End: api.Out})
		}
	}
}

// P19.1: of many configs each one in its turn is the first that isn't Out.
func TestEachAnswers(t *testing.T) {
	f := none()
	for n := range 70 {
		l := slices.Repeat([]api.Config{slow(0)}, 70)
		l[n].Budget = 9
		l[69].Budget = -1
		want, _ := solve.Solve(f, l[n])
		for _, workers := range []int{1, 2, 7, 64} {
			answers(t, f, l, workers, n, want)
		}
	}
}

// P19.1: a formula that isn't well shaped, whatever else is wrong.
func TestBadFormula(t *testing.T) {
	lists := [][]api.Config{nil, {solve.Usual()}, {quick(0), slow(3)}, {solve.Usual(), {}}}
	for _, f := range badFormulas() {
		for _, l := range lists {
			for _, workers := range append(crews(), noCrews()...) {
				refuses(t, f, l, workers, api.ErrShape)
			}
		}
	}
}

// P19.1: a config that isn't formed, wherever it stands, also behind one that would answer, and beside a wrong number of workers.
func TestBadConfig(t *testing.T) {
	f := form(2, c(1, 2))
	for _, bad := range badConfigs() {
		for _, budget := range []int{bad.Budget, 0, 1} {
			bad.Budget = budget
			for n := range 5 {
				l := []api.Config{quick(0), solve.Usual(), slow(-1), slow(2), quick(5)}[:n]
				for place := range n + 1 {
					for _, workers := range []int{1, 2, 64, 0, 65, -1} {
						refuses(t, f, slices.Insert(slices.Clone(l), place, bad), workers, api.ErrShape)
					}
				}
			}
		}
	}
}

// P19.1: no config, and numbers of workers out of range.
func TestBadRange(t *testing.T) {
	for _, f := range []api.Formula{form(0), form(2, c(1, 2)), none()} {
		for _, workers := range append(crews(), noCrews()...) {
			refuses(t, f, nil, workers, api.ErrRange)
			refuses(t, f, []api.Config{}, workers, api.ErrRange)
		}
		for _, workers := range noCrews() {
			refuses(t, f, []api.Config{solve.Usual()}, workers, api.ErrRange)
			refuses(t, f, slices.Repeat([]api.Config{slow(0)}, 100), workers, api.ErrRange)
		}
	}
}

// P4, P19.1: drawn formulas and configs, held against the searches one behind the other.
func TestByWords(t *testing.T) {
	places := map[int]int{}
	for seed := range uint64(400) {
		draw := drawn(seed)
		f := draw.hard(4 + draw.Intn(30))
		l := draw.configs(f, 12)
		who, o := oneByOne(f, l)
		places[min(who, 3)]++
		for _, workers := range []int{1, 2, 4, 64} {
			answers(t, f, l, workers, who, o)
		}
	}
	for who := -1; who <= 3; who++ {
		if places[who] < 20 {
			t.Errorf("the answer %d came only %d times", who, places[who])
		}
	}
}

// P19.2: the same call, with all numbers of workers, again and again.
func TestAgainAndAgain(t *testing.T) {
	for seed := range uint64(6) {
		draw := drawn(seed + 500)
		f := draw.hard(30)
		l := append(draw.configs(f, 20), draw.configs(f, 20)...)
		who, o := oneByOne(f, l)
		for round := range 3 * api.MaxCrew {
			answers(t, f, l, 1+round%api.MaxCrew, who, o)
		}
	}
}

// P19.2: a later config has ended long before an earlier one has: it says nothing, if the earlier one answers; and if it doesn't, it does.
func TestSlowAheadOfQuick(t *testing.T) {
	f := wayOut(7)
	late, _ := solve.Solve(f, slow(-1))
	soon, _ := solve.Solve(f, quick(-1))
	if late.Conflicts < 2000 || soon.Conflicts > 0 || late.End != api.Sat || soon.End != api.Sat || same(late, soon) {
		t.Fatalf("%d and %d conflicts", late.Conflicts, soon.Conflicts)
	}
	for _, workers := range []int{1, 2, 64} {
		answers(t, f, []api.Config{slow(late.Conflicts), quick(0), quick(-1)}, workers, 0, late)
		answers(t, f, []api.Config{slow(late.Conflicts - 1), quick(0), slow(-1)}, workers, 1, soon)
		answers(t, f, []api.Config{slow(500), slow(late.Conflicts + 1), quick(0)}, workers, 1, late)
		answers(t, f, []api.Config{slow(late.Conflicts), slow(1), slow(2), slow(3), slow(4)}, workers, 0, late)
	}
}
