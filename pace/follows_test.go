package pace_test

import (
	"testing"

	"depot/api"
)

// plans shows plans of which something follows, long ones and short ones.
func plans(t *testing.T, show func(c api.Config, beats []api.Beat)) {
	t.Helper()
	for _, c := range someLed() {
		show(c, planned(t, c, 20000))
	}
	for _, c := range []api.Config{led(1, 1, 1), led(2, 3, 2), led(100, 2000, 300), led(1000, 7, api.MaxPace)} {
		show(c, planned(t, c, api.MaxPace))
	}
}

// P13.5: between two Beats of a plan there are at least Base conflicts.
func TestBeatsLieApart(t *testing.T) {
	pairs := 0
	plans(t, func(c api.Config, beats []api.Beat) {
		for k := 1; k < len(beats); k++ {
			pairs++
			if apart := beats[k].Conflicts - beats[k-1].Conflicts; apart < c.Base {
				t.Fatalf("%v: beats at %d and %d", c, beats[k-1].Conflicts, beats[k].Conflicts)
			}
		}
	})
	if pairs < 10000 {
		t.Errorf("only %d pairs of beats", pairs)
	}
}

// P13.5: from a plan's j-th clearing to the next one there are at least First plus j times Grow.
func TestClearingsLieApart(t *testing.T) {
	pairs := 0
	plans(t, func(c api.Config, beats []api.Beat) {
		j, last := 0, 0
		for _, b := range beats {
			if !b.Clear {
				continue
			}
			if j > 0 {
				pairs++
			}
			if apart := b.Conflicts - last; apart < c.First+j*c.Grow {
				t.Fatalf("%v: clearing %d at %d, the next one at %d", c, j, last, b.Conflicts)
			}
			j, last = j+1, b.Conflicts
		}
	})
	if pairs < 1000 {
		t.Errorf("only %d pairs of clearings", pairs)
	}
}

// P13.5: a plan of fewer conflicts is the beginning of a plan of more: all beats up to there, and no other.
func TestPlanBeginsPlan(t *testing.T) {
	begins := func(c api.Config, fewer int, more []api.Beat) {
		k := 0
		for k < len(more) && more[k].Conflicts <= fewer {
			k++
		}
		sameBeats(t, "the beginning", planned(t, c, fewer), more[:k])
	}
	for _, c := range []api.Config{led(1, 1, 1), led(2, 3, 2), led(7, 1, 50), led(50, 200, 3)} {
		more := planned(t, c, 1000)
		for fewer := range 1001 {
			begins(c, fewer, more)
		}
	}
	for _, c := range someLed() {
		more := planned(t, c, 20000)
		for _, fewer := range []int{0, 1, 2, 3, 50, 999, 1000, 1001, 19999, 20000} {
			begins(c, fewer, more)
		}
	}
	for _, c := range []api.Config{led(1, 1, 1), led(100, 2000, 300), led(api.MaxPace, 1, 1)} {
		more := planned(t, c, api.MaxPace)
		for _, fewer := range []int{0, 20000, api.MaxPace / 2, api.MaxPace - 1, api.MaxPace} {
			begins(c, fewer, more)
		}
	}
}
