package heat_test

import (
	"math"
	"slices"
	"testing"

	"depot/api"
	"depot/heat"
)

func orderIs(t *testing.T, h *heat.Heat, want ...int) {
	t.Helper()
	if got := h.Order(); !slices.Equal(got, want) {
		t.Errorf("the order is %v, not %v", got, want)
	}
}

func scoreIs(t *testing.T, h *heat.Heat, v int, want float64) {
	t.Helper()
	if got, e := h.Score(v); got != want || e != api.OK {
		t.Errorf("Score(%d) = %v, error %d, not %v", v, got, e, want)
	}
}

func takes(t *testing.T, h *heat.Heat, want int) {
	t.Helper()
	if got, ok := h.Take(); got != want || ok != (want != 0) {
		t.Errorf("Take = %d, %v, not %d", got, ok, want)
	}
}

func errorIs(t *testing.T, what string, got, want api.Errno) {
	t.Helper()
	if got != want {
		t.Errorf("%s: error %d, not %d", what, got, want)
	}
}

// bumps warms variables one behind the other.
func bumps(t *testing.T, h *heat.Heat, vs ...int) {
	t.Helper()
	for _, v := range vs {
		errorIs(t, "Bump", h.Bump(v), api.OK)
	}
}

func cools(h *heat.Heat, times int) {
	for range times {
		h.Cool()
	}
}

// stepIs asks for the step by warming a variable whose score is 0.
func stepIs(t *testing.T, h *heat.Heat, v int, want float64) {
	t.Helper()
	scoreIs(t, h, v, 0)
	bumps(t, h, v)
	scoreIs(t, h, v, want)
}

// upTo: the numbers from 1 on.
func upTo(n int) []int {
	var out []int
	for v := range n {
		out = append(out, v+1)
	}
	return out
}

// noVars: numbers that are no variables of a Heat of n.
func noVars(n int) []int {
	return []int{0, -1, -2, -n, n + 1, n + 2, 2 * (n + 1), api.MaxVar + 1, math.MinInt, math.MinInt + 1, math.MaxInt, math.MinInt32, 1 << 32, 1<<32 + 1, -1 << 32}
}

// P14.1: n at its bounds and beyond, whatever the decay.
func TestNewOfNumbers(t *testing.T) {
	for _, decay := range []float64{0.5, 0.95, 1} {
		for _, n := range []int{0, 1, 2, 1048575, 1048576} {
			if h, e := heat.New(n, decay); h == nil || e != api.OK {
				t.Errorf("New(%d, %v): error %d", n, decay, e)
			}
		}
		for _, n := range []int{-1, -2, -1048576, 1048577, 1048578, 1 << 32, math.MinInt, math.MaxInt} {
			if h, e := heat.New(n, decay); h != nil || e != api.ErrRange {
				t.Errorf("New(%d, %v): error %d, and a Heat: %v", n, decay, e, h != nil)
			}
		}
	}
}

// P14.1: a decay at its bounds, just beyond, far beyond, and one that is no number, whatever n.
func TestNewOfDecays(t *testing.T) {
	for _, n := range []int{0, 1, 7} {
		for _, decay := range []float64{0.5, math.Nextafter(0.5, 1), 0.75, 0.95, math.Nextafter(1, 0), 1} {
			if h, e := heat.New(n, decay); h == nil || e != api.OK {
				t.Errorf("New(%d, %v): error %d", n, decay, e)
			}
		}
	}
	for _, n := range []int{0, 1, 7, -1, api.MaxVar, api.MaxVar + 1} {
		for _, decay := range []float64{
			0.49, 1.01, math.Nextafter(0.5, 0), math.Nextafter(1, 2),
			0, math.Copysign(0, -1), -0.5, -0.9, -1, 2, math.MaxFloat64, -math.MaxFloat64, math.SmallestNonzeroFloat64,
			math.Inf(1), math.Inf(-1),
			math.NaN(), -math.NaN(), math.Float64frombits(0x7ff0000000000001), math.Float64frombits(0xffffffffffffffff),
		} {
			if h, e := heat.New(n, decay); h != nil || e != api.ErrRange {
				t.Errorf("New(%d, %v): error %d, and a Heat: %v", n, decay, e, h != nil)
			}
		}
	}
}

// P14.1: a new Heat: all scores are 0, all are within, the step is 1.
func TestNewHeat(t *testing.T) {
	for _, decay := range []float64{0.5, 0.8, 1} {
		for n := range 70 {
			h := made(t, n, decay)
			orderIs(t, h, upTo(n)...)
			for v := 1; v <= n; v++ {
				if !h.In(v) {
					t.Errorf("of %d variables %d isn't within", n, v)
				}
				stepIs(t, h, v, 1)
			}
		}
	}
}

// P14.1: a Heat of no variable.
func TestNoVariable(t *testing.T) {
	h := made(t, 0, 1)
	for range 3 {
		takes(t, h, 0)
		orderIs(t, h)
		h.Cool()
		for _, v := range append(noVars(0), 1) {
			errorIs(t, "Bump", h.Bump(v), api.ErrRange)
			errorIs(t, "Put", h.Put(v), api.ErrRange)
		}
	}
	// It is scaled like any other.
	h = made(t, 0, 0.5)
	cools(h, 2000)
	takes(t, h, 0)
}

// P14.2: the step is added to the score of that variable, and of no other.
func TestBump(t *testing.T) {
	h := made(t, 3, 0.5)
	bumps(t, h, 2, 2, 2)
	scoreIs(t, h, 1, 0)
	scoreIs(t, h, 2, 3)
	scoreIs(t, h, 3, 0)
	cools(h, 3)
	bumps(t, h, 3, 2)
	scoreIs(t, h, 1, 0)
	scoreIs(t, h, 2, 11)
	scoreIs(t, h, 3, 8)
}

// P14.2: a variable that isn't within is warmed just so, and doesn't come within by it.
func TestBumpOutside(t *testing.T) {
	h := made(t, 3, 0.5)
	takes(t, h, 1)
	takes(t, h, 2)
	h.Cool()
	bumps(t, h, 2, 2, 1)
	scoreIs(t, h, 1, 2)
	scoreIs(t, h, 2, 4)
	scoreIs(t, h, 3, 0)
	orderIs(t, h, 3)
	if h.In(1) || h.In(2) {
		t.Error("warmed from outside, it is within")
	}
	errorIs(t, "Put", h.Put(1), api.OK)
	orderIs(t, h, 1, 3)
	errorIs(t, "Put", h.Put(2), api.OK)
	orderIs(t, h, 2, 1, 3)
	takes(t, h, 2)
	takes(t, h, 1)
	takes(t, h, 3)
	takes(t, h, 0)
	bumps(t, h, 3)
	takes(t, h, 0)
	scoreIs(t, h, 3, 2)
}

// P14.2, P14.3, P14.4: numbers that are no variables are refused, and the Heat goes on as if nobody had called.
func TestNoVariables(t *testing.T) {
	for _, n := range []int{1, 2, 5, 64} {
		h, p := pair(t, n, 0.5)
		does(t, h, p, call{bump, n}, call{cool, 1}, call{bump, 1}, call{take, 0})
		for _, v := range noVars(n) {
			errorIs(t, "Bump", h.Bump(v), api.ErrRange)
			errorIs(t, "Put", h.Put(v), api.ErrRange)
			if s, e := h.Score(v); s != 0 || e != api.ErrRange {
				t.Errorf("Score(%d) = %v, error %d", v, s, e)
			}
			if h.In(v) {
				t.Errorf("%d is within", v)
			}
			holds(t, h, p)
		}
		does(t, h, p, call{cool, 1}, call{bump, 1}, call{put, 1}, call{take, 0}, call{take, 0})
	}
}

// P14.2: Cool divides the step by the decay, and changes no score.
func TestCool(t *testing.T) {
	for _, decay := range []float64{0.5, 0.6, 0.75, 0.95, math.Nextafter(1, 0), 1} {
		h := made(t, 41, decay)
		step := 1.0
		for v := 1; v <= 40; v++ {
			stepIs(t, h, v, step)
			h.Cool()
			scoreIs(t, h, v, step)
			step = float64(step / decay)
		}
		stepIs(t, h, 41, step)
	}
}

// P14.2: with a decay of 1 the step stays, however often it is cooled.
func TestCoolByNothing(t *testing.T) {
	h := made(t, 2, 1)
	cools(h, 100000)
	stepIs(t, h, 1, 1)
	cools(h, 100000)
	bumps(t, h, 1)
	scoreIs(t, h, 1, 2)
	stepIs(t, h, 2, 1)
}

// The chapter's examples, one call behind the other.
func TestExample(t *testing.T) {
	h := made(t, 3, 0.5)
	orderIs(t, h, 1, 2, 3)
	if !h.In(3) || h.In(4) {
		t.Error("In")
	}
	scoreIs(t, h, 1, 0)
	bumps(t, h, 2)
	h.Cool()
	bumps(t, h, 3)
	orderIs(t, h, 3, 2, 1)
	scoreIs(t, h, 2, 1)
	scoreIs(t, h, 3, 2)
	bumps(t, h, 2)
	orderIs(t, h, 2, 3, 1)
	takes(t, h, 2)
	takes(t, h, 3)
	if h.In(2) {
		t.Error("In")
	}
	orderIs(t, h, 1)
	errorIs(t, "Put(1)", h.Put(1), api.ErrSet)
	errorIs(t, "Put(2)", h.Put(2), api.OK)
	errorIs(t, "Put(4)", h.Put(4), api.ErrRange)
	orderIs(t, h, 2, 1)
	takes(t, h, 2)
	takes(t, h, 1)
	takes(t, h, 0)
	bumps(t, h, 1)
	scoreIs(t, h, 1, 2)
}
