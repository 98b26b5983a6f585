package heat_test

import (
	"math"
	"slices"
	"testing"

	"depot/api"
	"depot/heat"
)

const bound = 1e100

var (
	below = math.Nextafter(bound, 0)
	above = math.Nextafter(bound, math.Inf(1))
)

// small: a number scaled once.
func small(x float64) float64 { return float64(x * 1e-100) }

// build gives variables scores, whole numbers, by steps that are powers of two, the greatest score's last bit last; it answers the step's exponent then.
func build(t *testing.T, h *heat.Heat, scores map[int]float64) int {
	t.Helper()
	top := 0.0
	for _, s := range scores {
		top = max(top, s)
	}
	_, bits := math.Frexp(top)
	for k := range bits {
		if k > 0 {
			h.Cool()
		}
		for v, s := range scores {
			// Half of an odd number of steps isn't whole.
			if part := math.Floor(math.Ldexp(s, -k)); math.Mod(part, 2) == 1 {
				bumps(t, h, v)
			}
		}
	}
	return bits - 1
}

// P14.2: a score just below 1e100 and at it stays as it is, and so does all else.
func TestScoreUpTo(t *testing.T) {
	for _, s := range []float64{below, bound} {
		h := made(t, 3, 0.5)
		bumps(t, h, 2)
		step := math.Ldexp(1, build(t, h, map[int]float64{1: s}))
		scoreIs(t, h, 1, s)
		scoreIs(t, h, 2, 1)
		stepIs(t, h, 3, step)
	}
}

// P14.2: a score just above 1e100 is scaled, with all others and the step.
func TestScoreAbove(t *testing.T) {
	for _, outside := range []bool{false, true} {
		h := made(t, 4, 0.5)
		if outside {
			takeAll(h)
		}
		bumps(t, h, 2, 4, 4, 4)
		step := math.Ldexp(1, build(t, h, map[int]float64{1: above}))
		scoreIs(t, h, 1, small(above))
		scoreIs(t, h, 2, 1e-100)
		scoreIs(t, h, 4, small(3))
		stepIs(t, h, 3, small(step))
		if outside {
			orderIs(t, h)
		} else {
			orderIs(t, h, 1, 3, 4, 2)
		}
	}
}

// P14.2: a score far above 1e100 is scaled once.
func TestScoreFarAbove(t *testing.T) {
	h := made(t, 3, 0.5)
	cools(h, 332)
	step := math.Ldexp(1, 332)
	bumps(t, h, 3, 1)
	scoreIs(t, h, 3, step)
	bumps(t, h, 1)
	scoreIs(t, h, 1, small(2*step))
	scoreIs(t, h, 3, small(step))
	stepIs(t, h, 2, small(step))
	orderIs(t, h, 1, 2, 3)
	// The step goes on from there, a little above 0.8.
	h.Cool()
	bumps(t, h, 2)
	scoreIs(t, h, 2, float64(small(step)+small(step)/0.5))
}

// decayTo: a decay, and how many divisions by it make just that step of 1.
func decayTo(t *testing.T, step float64) (float64, int) {
	t.Helper()
	for times := 334; times < 20000; times++ {
		decay := math.Exp(-math.Log(step) / float64(times))
		for range 4 {
			decay = math.Nextafter(decay, 0)
		}
		for range 8 {
			got := 1.0
			for range times {
				got = float64(got / decay)
			}
			if got == step {
				return decay, times
			}
			decay = math.Nextafter(decay, 1)
		}
	}
	t.Fatalf("no decay leads to a step of %v", step)
	return 0, 0
}

// P14.2: a step just below 1e100 and at it stays as it is, and so do all scores; a score that it makes is 1e100 then.
func TestStepUpTo(t *testing.T) {
	for _, step := range []float64{below, bound} {
		decay, times := decayTo(t, step)
		h := made(t, 3, decay)
		bumps(t, h, 2)
		cools(h, times)
		scoreIs(t, h, 2, 1)
		stepIs(t, h, 1, step)
		scoreIs(t, h, 2, 1)
		stepIs(t, h, 3, step)
		// The 1 that 2 had isn't seen in so great a number.
		bumps(t, h, 2)
		scoreIs(t, h, 2, step)
		orderIs(t, h, 1, 2, 3)
		bumps(t, h, 2)
		scoreIs(t, h, 2, small(2*step))
		scoreIs(t, h, 1, small(step))
		orderIs(t, h, 2, 1, 3)
	}
}

// P14.2: a step at 1e100 that is divided once more is scaled, and one just above it.
func TestStepAbove(t *testing.T) {
	decay, times := decayTo(t, bound)
	h := made(t, 3, decay)
	bumps(t, h, 2)
	cools(h, times+1)
	scoreIs(t, h, 2, 1e-100)
	stepIs(t, h, 1, small(bound/decay))

	decay, times = decayTo(t, above)
	h = made(t, 3, decay)
	bumps(t, h, 2, 2, 2)
	takes(t, h, 2)
	cools(h, times-1)
	scoreIs(t, h, 2, 3)
	h.Cool()
	scoreIs(t, h, 2, small(3))
	stepIs(t, h, 1, small(above))
	h.Cool()
	stepIs(t, h, 3, float64(small(above)/decay))
}

// P14.2, the chapter's example: 2^332 isn't above 1e100, 2^333 is.
func TestScaleExample(t *testing.T) {
	h := made(t, 2, 0.5)
	bumps(t, h, 1)
	cools(h, 332)
	scoreIs(t, h, 1, 1)
	h.Cool()
	scoreIs(t, h, 1, 1e-100)
	bumps(t, h, 2)
	scoreIs(t, h, 2, small(math.Ldexp(1, 333)))
	if s, _ := h.Score(2); s < 1.7497 || s > 1.7499 {
		t.Errorf("Score(2) = %v", s)
	}
	orderIs(t, h, 2, 1)
}

// P14.2: all sums, products and quotients are rounded, each by itself, as fractions rounded once say.
func TestRoundedByItself(t *testing.T) {
	scaled := 0
	for seed := range uint64(80) {
		draw := drawn(seed)
		n := 1 + draw.Intn(6)
		decay := []float64{0.5, 0.6, 0.7, 0.95}[seed%4]
		h, p := made(t, n, decay), newPlain(n, decay, exact())
		for range 60 {
			does(t, h, p, draw.call(n))
		}
		scaled += p.scaled
	}
	if scaled < 100 {
		t.Errorf("scaled %d times only", scaled)
	}
}

// P14.2: so they are down to the least numbers, which have fewer bits than others.
func TestRoundedDownToTheLeast(t *testing.T) {
	const n = 32
	short := 0
	for _, decay := range []float64{0.5, 0.6, 0.7} {
		h, p := made(t, n, decay), newPlain(n, decay, exact())
		for v := 1; v <= n; v++ {
			does(t, h, p, call{bump, v}, call{bump, v % 5}, call{cool, 10})
		}
		for p.scaled < 6 {
			does(t, h, p, call{cool, 30})
			for _, s := range p.scores {
				if 0 < s && s < 0x1p-1022 {
					short++
				}
			}
		}
	}
	if short < 50 {
		t.Errorf("only %d scores were so small", short)
	}
}

// P14.4, P14.5: scores that were unlike become 0 by scaling: the lesser number is the warmer one from then on, for Order and for Take.
func TestSameByVanishing(t *testing.T) {
	for n := 2; n < 40; n++ {
		h, p := pair(t, n, 0.5)
		for v := 1; v <= n; v++ {
			for range v {
				h.Bump(v)
				p.Bump(v)
			}
		}
		down := upTo(n)
		slices.Reverse(down)
		orderIs(t, h, down...)
		for p.scores[n-1] > 0 {
			does(t, h, p, call{cool, 300})
		}
		orderIs(t, h, upTo(n)...)
		if got := takeAll(h); !slices.Equal(got, upTo(n)) {
			t.Fatalf("Take takes %v", got)
		}
	}
}

// joined: two scores next to one another that scaling makes the same, whole numbers of 53 bits.
func joined(t *testing.T) (less, more float64) {
	t.Helper()
	for less = 1<<53 - 1<<10; less < 1<<53-2; less++ {
		if small(less) == small(less+1) {
			return less, less + 1
		}
	}
	t.Fatal("there are none")
	return 0, 0
}

// P14.4, P14.5: so it is with scores that become the same by rounding, without becoming 0.
func TestSameByRounding(t *testing.T) {
	less, more := joined(t)
	h := made(t, 3, 0.5)
	last := build(t, h, map[int]float64{1: less, 2: more})
	orderIs(t, h, 2, 1, 3)
	cools(h, 332-last)
	scoreIs(t, h, 1, less)
	scoreIs(t, h, 2, more)
	orderIs(t, h, 2, 1, 3)
	h.Cool()
	scoreIs(t, h, 1, small(less))
	scoreIs(t, h, 2, small(less))
	orderIs(t, h, 1, 2, 3)
	takes(t, h, 1)
	takes(t, h, 2)
	// Put in the other order, they stand as they do.
	errorIs(t, "Put", h.Put(2), api.OK)
	errorIs(t, "Put", h.Put(1), api.OK)
	takes(t, h, 1)
	takes(t, h, 2)
	takes(t, h, 3)
}

// P14.5: the same where a Bump scales, whether what is warmed is within or not.
func TestSameByBump(t *testing.T) {
	for _, outside := range []bool{false, true} {
		less, more := joined(t)
		h := made(t, 4, 0.5)
		if outside {
			bumps(t, h, 4)
			takes(t, h, 4)
		}
		last := build(t, h, map[int]float64{2: less, 3: more})
		cools(h, 332-last)
		bumps(t, h, 4)
		if outside {
			orderIs(t, h, 3, 2, 1)
		} else {
			orderIs(t, h, 4, 3, 2, 1)
		}
		bumps(t, h, 4)
		scoreIs(t, h, 2, small(less))
		scoreIs(t, h, 3, small(less))
		if !outside {
			takes(t, h, 4)
		}
		orderIs(t, h, 2, 3, 1)
		takes(t, h, 2)
		takes(t, h, 3)
		takes(t, h, 1)
	}
}

// P14.5: one that isn't within when scaling makes it the same as another stands by its number when it is put.
func TestSameOutside(t *testing.T) {
	less, more := joined(t)
	h := made(t, 3, 0.5)
	last := build(t, h, map[int]float64{1: less, 3: more})
	takes(t, h, 3)
	cools(h, 333-last)
	errorIs(t, "Put", h.Put(3), api.OK)
	orderIs(t, h, 1, 3, 2)
	takes(t, h, 1)
	takes(t, h, 3)
	takes(t, h, 2)
}
