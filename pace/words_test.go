package pace_test

import (
	"math"
	"slices"
	"testing"

	"depot/api"
	"depot/pace"
)

// lubyByWords: a number of Luby's sequence, by the chapter's words.
func lubyByWords(i int) int {
	for k := 1; i >= 1 && k <= 63; k++ {
		end := uint64(1)<<k - 1
		if uint64(i) == end {
			return 1 << (k - 1)
		}
		if uint64(i) >= 1<<(k-1) && uint64(i) < end {
			return lubyByWords(i - 1<<(k-1) + 1)
		}
	}
	return 0
}

// lubyByRuns: the sequence up to its number 2^k - 1, made of its own beginning, twice, and one number more.
func lubyByRuns(k int) []int {
	var out []int
	for n := range k {
		out = append(slices.Concat(out, out), 1<<n)
	}
	return out
}

// record: a pace by the chapter's words: all that was called, from the beginning on, is kept and gone through anew at each question.
type record struct {
	c      api.Config
	events []string
}

const (
	conflict = "a conflict"
	restart  = "Restart was true"
	clearing = "Clear was true"
)

// since: how often something happened, and how many conflicts there were since it did so last.
func (r *record) since(what string) (times, conflicts int) {
	for _, e := range r.events {
		if e == conflict {
			conflicts++
		}
		if e == what {
			times, conflicts = times+1, 0
		}
	}
	return times, conflicts
}

func (r *record) Conflict() { r.events = append(r.events, conflict) }

func (r *record) Restart() bool {
	times, conflicts := r.since(restart)
	k := times + 1
	if conflicts < r.c.Base*lubyByWords(k) {
		return false
	}
	r.events = append(r.events, restart)
	return true
}

func (r *record) Clear() bool {
	j, conflicts := r.since(clearing)
	if conflicts < r.c.First+j*r.c.Grow {
		return false
	}
	r.events = append(r.events, clearing)
	return true
}

// planByWords: a plan by the chapter's words, one conflict behind the other.
func planByWords(p pace.Pace, conflicts int) []api.Beat {
	var out []api.Beat
	for n := 1; n <= conflicts; n++ {
		p.Conflict()
		if p.Restart() {
			out = append(out, api.Beat{Conflicts: n, Clear: p.Clear()})
		}
	}
	return out
}

// led: a config that is formed, by its three counts.
func led(base, first, grow int) api.Config {
	return api.Config{Base: base, First: first, Grow: grow, Decay: 0.95, Phase: api.PhaseKept, Budget: -1}
}

// someLed: configs small and great, next to one another and far apart.
func someLed() []api.Config {
	var out []api.Config
	sizes := []int{1, 2, 3, 7, 50, 1000, api.MaxPace}
	for _, base := range sizes {
		for _, first := range sizes {
			for _, grow := range sizes {
				out = append(out, led(base, first, grow))
			}
		}
	}
	return out
}

// unformed: configs each of which is formed but for one field, and the zero one.
func unformed() []api.Config {
	out := []api.Config{{}}
	with := func(change func(c *api.Config)) {
		c := led(100, 2000, 300)
		change(&c)
		out = append(out, c)
	}
	for _, n := range []int{0, -1, -100, api.MaxPace + 1, math.MinInt, math.MaxInt} {
		with(func(c *api.Config) { c.Base = n })
		with(func(c *api.Config) { c.First = n })
		with(func(c *api.Config) { c.Grow = n })
	}
	for _, d := range noDecays() {
		with(func(c *api.Config) { c.Decay = d })
	}
	for _, phase := range []int{0, 4, -1, -2, math.MinInt, math.MaxInt} {
		with(func(c *api.Config) { c.Phase = phase })
	}
	return out
}

// noDecays: just beyond the bounds, far beyond, and what is no number.
func noDecays() []float64 {
	return []float64{
		0.49, 1.01, math.Nextafter(0.5, 0), math.Nextafter(1, 2),
		0, math.Copysign(0, -1), -0.5, -0.95, -1, 2, math.MaxFloat64, -math.MaxFloat64, math.SmallestNonzeroFloat64,
		math.Inf(1), math.Inf(-1),
		math.NaN(), -math.NaN(), math.Float64frombits(0x7ff0000000000001), math.Float64frombits(0xffffffffffffffff),
	}
}

func made(t *testing.T, c api.Config) pace.Pace {
	t.Helper()
	p, e := pace.Make(c)
	if e != api.OK || p.Conflict == nil || p.Restart == nil || p.Clear == nil {
		t.Fatalf("Make(%v): error %d", c, e)
	}
	return p
}

func planned(t *testing.T, c api.Config, conflicts int) []api.Beat {
	t.Helper()
	beats, e := pace.Plan(c, conflicts)
	if e != api.OK {
		t.Fatalf("Plan(%v, %d): error %d", c, conflicts, e)
	}
	return beats
}

// conflicts says so many of them.
func conflicts(p pace.Pace, n int) {
	for range n {
		p.Conflict()
	}
}

// drawer draws numbers by a rule of its own, so that they are the same at every run.
type drawer struct{ state uint64 }

func drawn(seed uint64) *drawer { return &drawer{seed*2654435761 + 12345} }

// Intn: a number from 0 to n - 1.
func (d *drawer) Intn(n int) int {
	d.state = d.state*6364136223846793005 + 1442695040888963407
	return int(d.state>>33) % n
}
