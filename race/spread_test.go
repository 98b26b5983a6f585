package race_test

import (
	"math"
	"slices"
	"testing"

	"depot/api"
	"depot/pace"
	"depot/race"
)

// spreads: what Spread answers of a formed config, held against P19.3.
func spreads(t *testing.T, x api.Config, n int) []api.Config {
	t.Helper()
	l, e := race.Spread(x, n)
	if e != api.OK || len(l) != n || l[0] != x {
		t.Fatalf("Spread(%v, %d) = %v, %d", x, n, l, e)
	}
	for k, one := range l {
		if !pace.Formed(one) || one.Budget != x.Budget || slices.Contains(l[:k], one) {
			t.Fatalf("Spread(%v, %d): %v at %d of %v", x, n, one, k, l)
		}
	}
	return l
}

// P19.3, example 3, and all numbers of configs.
func TestSpread(t *testing.T) {
	x := api.Config{Base: 100, First: 2000, Grow: 300, Decay: 0.95, Phase: api.PhaseKept, Budget: 5}
	spreads(t, x, 3)
	for n := 1; n <= api.MaxCrew; n++ {
		spreads(t, x, n)
	}
}

// P19.3: a config that isn't formed, also beside a wrong number.
func TestSpreadBadConfig(t *testing.T) {
	for _, bad := range badConfigs() {
		for _, n := range append(crews(), noCrews()...) {
			if l, e := race.Spread(bad, n); len(l) != 0 || e != api.ErrShape {
				t.Fatalf("Spread(%v, %d) = %v, %d", bad, n, l, e)
			}
		}
	}
}

// P19.3: numbers out of range.
func TestSpreadBadNumber(t *testing.T) {
	for _, x := range []api.Config{slow(-1), quick(0), slow(math.MaxInt)} {
		for _, n := range noCrews() {
			if l, e := race.Spread(x, n); len(l) != 0 || e != api.ErrRange {
				t.Fatalf("Spread(%v, %d) = %v, %d", x, n, l, e)
			}
		}
	}
}

// P19.3: odd configs: the greatest and the least of each number, and whatever another one of the configs may have.
func TestSpreadOddConfigs(t *testing.T) {
	counts := []int{1, 2, api.MaxPace - 1, api.MaxPace}
	floats := []float64{0.5, math.Nextafter(0.5, 1), 0.75, math.Nextafter(1, 0), 1}
	for _, one := range spreads(t, slow(0), api.MaxCrew) {
		if !slices.Contains(counts, one.Base) {
			counts = append(counts, one.Base)
		}
		if !slices.Contains(floats, one.Decay) {
			floats = append(floats, one.Decay)
		}
	}
	budgets := []int{math.MinInt, -1, 0, 1, api.MaxPace, math.MaxInt}
	seen := 0
	for _, base := range counts {
		for k, first := range counts {
			for _, decay := range floats {
				for phase := api.PhaseFalse; phase <= api.PhaseKept; phase++ {
					x := api.Config{Base: base, First: first, Grow: counts[(seen+k)%len(counts)], Decay: decay, Phase: phase, Budget: budgets[seen%len(budgets)]}
					spreads(t, x, []int{64, 1, 2, 64, 63, 3, 64}[seen%7])
					seen++
				}
			}
		}
	}
}

// P19.3: what is spread can be spread again.
func TestSpreadAgain(t *testing.T) {
	for _, one := range spreads(t, quick(9), api.MaxCrew) {
		spreads(t, one, api.MaxCrew)
	}
}
