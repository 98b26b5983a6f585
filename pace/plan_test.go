package pace_test

import (
	"math"
	"slices"
	"testing"

	"depot/api"
	"depot/pace"
)

// cut: the beginning of what may be long.
func cut(beats []api.Beat) []api.Beat {
	return beats[:min(len(beats), 20)]
}

func sameBeats(t *testing.T, what string, got, want []api.Beat) {
	t.Helper()
	if !slices.Equal(got, want) {
		t.Errorf("%s: %d beats %v, not %d beats %v", what, len(got), cut(got), len(want), cut(want))
	}
}

func planRefuses(t *testing.T, c api.Config, conflicts int, want api.Errno) {
	t.Helper()
	if beats, e := pace.Plan(c, conflicts); e != want || len(beats) != 0 {
		t.Errorf("Plan(%v, %d): %v, error %d, not %d", c, conflicts, cut(beats), e, want)
	}
}

// P13.4: ErrShape of what isn't formed, also where the conflicts are out of range.
func TestPlanOfNoConfig(t *testing.T) {
	for _, c := range unformed() {
		for _, n := range []int{0, 1, 100, api.MaxPace, -1, api.MaxPace + 1, math.MinInt, math.MaxInt} {
			planRefuses(t, c, n, api.ErrShape)
		}
	}
}

// P13.4: ErrRange of conflicts below 0 or above MaxPace.
func TestPlanOutOfRange(t *testing.T) {
	for _, n := range []int{-1, -2, -1048576, 1048577, 1048578, 1 << 32, math.MinInt, math.MaxInt} {
		planRefuses(t, led(1, 1, 1), n, api.ErrRange)
		planRefuses(t, led(api.MaxPace, api.MaxPace, api.MaxPace), n, api.ErrRange)
	}
}

// P13.4: 0 conflicts, and as many as there may be.
func TestPlanAtItsBounds(t *testing.T) {
	for _, c := range someLed() {
		sameBeats(t, "0 conflicts", planned(t, c, 0), nil)
	}
	const most = 1048576
	sameBeats(t, "one beat at the last conflict", planned(t, led(most, most, 1), most), []api.Beat{{Conflicts: most, Clear: true}})
	sameBeats(t, "one too few", planned(t, led(most, most, 1), most-1), nil)
	sameBeats(t, "a beat that clears nothing", planned(t, led(most-1, most, 1), most), []api.Beat{{Conflicts: most - 1}})
	half := most / 2
	sameBeats(t, "two beats", planned(t, led(half, half, 1), most), []api.Beat{{Conflicts: half, Clear: true}, {Conflicts: most}})
	sameBeats(t, "two beats, the second clears", planned(t, led(half, half+1, 1), most), []api.Beat{{Conflicts: half}, {Conflicts: most, Clear: true}})
	for _, c := range []api.Config{led(1, 1, 1), led(1, 2000, 300), led(100, 2000, 300)} {
		sameBeats(t, "MaxPace conflicts", planned(t, c, most), planByWords(made(t, c), most))
	}
}

// P13.4: with Base 1 a beat stands behind the first conflict, with First 1 it clears.
func TestPlanOfOneConflict(t *testing.T) {
	for _, c := range someLed() {
		var want []api.Beat
		if c.Base == 1 {
			want = []api.Beat{{Conflicts: 1, Clear: c.First == 1}}
		}
		sameBeats(t, "1 conflict", planned(t, c, 1), want)
	}
}

// P13.4 by its words: each Beat's Conflicts, and whether it clears, as a Pace says it, and as the chapter does.
func TestPlanByWords(t *testing.T) {
	for _, c := range someLed() {
		for _, n := range []int{2, 3, 10, 1999, 5000} {
			sameBeats(t, "as a Pace says", planned(t, c, n), planByWords(made(t, c), n))
		}
	}
	for seed := range uint64(100) {
		draw := drawn(seed)
		c := led(1+draw.Intn(10), 1+draw.Intn(20), 1+draw.Intn(20))
		r := &record{c: c}
		want := planByWords(pace.Pace{Conflict: r.Conflict, Restart: r.Restart, Clear: r.Clear}, 300)
		sameBeats(t, "as the chapter says", planned(t, c, 300), want)
	}
}

// Example 3, at each number of conflicts.
func TestPlanExample(t *testing.T) {
	c := api.Config{Base: 2, First: 3, Grow: 2, Decay: 1, Phase: api.PhaseTrue}
	all := []api.Beat{{Conflicts: 2}, {Conflicts: 4, Clear: true}, {Conflicts: 8}, {Conflicts: 10, Clear: true}, {Conflicts: 12}, {Conflicts: 16}}
	for n := range 18 {
		k := 0
		for k < len(all) && all[k].Conflicts <= n {
			k++
		}
		sameBeats(t, "the example", planned(t, c, n), all[:k])
	}
}
