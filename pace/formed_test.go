package pace_test

import (
	"math"
	"testing"

	"depot/api"
	"depot/pace"
)

// P13.2: each field at its bounds, the others being usual ones.
func TestFormed(t *testing.T) {
	yes := func(change func(c *api.Config)) {
		t.Helper()
		c := led(100, 2000, 300)
		change(&c)
		if !pace.Formed(c) {
			t.Errorf("Formed(%v): false", c)
		}
	}
	yes(func(*api.Config) {})
	for _, n := range []int{1, 2, 1048575, 1048576} {
		yes(func(c *api.Config) { c.Base = n })
		yes(func(c *api.Config) { c.First = n })
		yes(func(c *api.Config) { c.Grow = n })
	}
	for _, d := range []float64{0.5, math.Nextafter(0.5, 1), 0.75, math.Nextafter(1, 0), 1} {
		yes(func(c *api.Config) { c.Decay = d })
	}
	for _, phase := range []int{api.PhaseFalse, api.PhaseTrue, api.PhaseKept} {
		yes(func(c *api.Config) { c.Phase = phase })
	}
	for _, b := range []int{math.MinInt, -2, -1, 0, 1, api.MaxPace + 1, math.MaxInt} {
		yes(func(c *api.Config) { c.Budget = b })
	}
}

// P13.2: each field just beyond its bounds, and far beyond.
func TestNotFormed(t *testing.T) {
	for _, c := range unformed() {
		for _, budget := range []int{-1, 0, 1, math.MinInt, math.MaxInt} {
			c.Budget = budget
			if pace.Formed(c) {
				t.Errorf("Formed(%v): true", c)
			}
		}
	}
}

// P13.2 by its words: all fields at and beyond their bounds, each beside each.
func TestFormedByWords(t *testing.T) {
	count := func(n int) bool { return n >= 1 && n <= 1048576 }
	sizes := []int{0, 1, 1048576, 1048577}
	for _, base := range sizes {
		for _, first := range sizes {
			for _, grow := range sizes {
				for _, decay := range append(noDecays(), 0.5, 0.95, 1) {
					for phase := -1; phase <= 5; phase++ {
						c := api.Config{Base: base, First: first, Grow: grow, Decay: decay, Phase: phase}
						want := count(base) && count(first) && count(grow) && decay >= 0.5 && decay <= 1 && phase >= 1 && phase <= 3
						if got := pace.Formed(c); got != want {
							t.Fatalf("Formed(%v): %v", c, got)
						}
					}
				}
			}
		}
	}
}
