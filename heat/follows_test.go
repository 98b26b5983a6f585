package heat_test

import (
	"slices"
	"testing"

	"depot/api"
	"depot/heat"
)

// behindCalls shows Heats of n variables behind each call of drawn rows, in which all kinds of calls stand, refusals and scalings too.
func behindCalls(t *testing.T, show func(h *heat.Heat, n int)) {
	t.Helper()
	for seed := range uint64(120) {
		draw := drawn(seed + 1000)
		n := []int{0, 1, 2, 4, 9, 33}[seed%6]
		h := made(t, n, []float64{0.5, 0.55, 0.8, 1}[seed/6%4])
		show(h, n)
		for range 150 {
			draw.call(n).on(h)
			show(h, n)
		}
	}
}

// P14.5: Order has just the variables that are In, each once.
func TestOrderIsWhatIsIn(t *testing.T) {
	some := 0
	behindCalls(t, func(h *heat.Heat, n int) {
		var in []int
		for v := -3; v <= n+3; v++ {
			if h.In(v) {
				in = append(in, v)
			}
		}
		if row := slices.Sorted(slices.Values(h.Order())); !slices.Equal(row, in) {
			t.Fatalf("Order has %v, and %v are within", row, in)
		}
		if 0 < len(in) && len(in) < n {
			some++
		}
	})
	if some < 1000 {
		t.Errorf("only %d orders of some variables", some)
	}
}

// P14.5: Scores never rise along Order, and where they are the same the numbers rise.
func TestScoresAlongOrder(t *testing.T) {
	same, unlike := 0, 0
	behindCalls(t, func(h *heat.Heat, n int) {
		row := h.Order()
		for k := 1; k < len(row); k++ {
			a, _ := h.Score(row[k-1])
			b, _ := h.Score(row[k])
			if a < b || a == b && row[k-1] >= row[k] {
				t.Fatalf("the order %v: %v of %d is ahead of %v of %d", row, a, row[k-1], b, row[k])
			}
			if a == b {
				same++
			} else {
				unlike++
			}
		}
	})
	if same < 1000 || unlike < 1000 {
		t.Errorf("only %d that are the same and %d that aren't", same, unlike)
	}
}

// P14.5: Take takes Order's first, and leaves the others in their order; put back, it is the first again.
func TestTakeTakesTheFirst(t *testing.T) {
	behindCalls(t, func(h *heat.Heat, n int) {
		row := h.Order()
		if len(row) == 0 {
			takes(t, h, 0)
			return
		}
		takes(t, h, row[0])
		orderIs(t, h, row[1:]...)
		errorIs(t, "Put", h.Put(row[0]), api.OK)
		orderIs(t, h, row...)
	})
}

// P14.5: what is taken up to the end is Order, whatever was called.
func TestTakesAreTheOrder(t *testing.T) {
	behindCalls(t, func(h *heat.Heat, n int) {
		row := h.Order()
		if got := takeAll(h); !slices.Equal(got, row) {
			t.Fatalf("Take takes %v, the order was %v", got, row)
		}
		for _, v := range row {
			h.Put(v)
		}
		orderIs(t, h, row...)
	})
}

// P14.5: Scores are from 0 to 1e100; here they come near to both.
func TestScoresAreBetween(t *testing.T) {
	great, none := 0, 0
	look := func(h *heat.Heat, n int) {
		for v := 1; v <= n; v++ {
			s, e := h.Score(v)
			if e != api.OK || !(0 <= s && s <= 1e100) {
				t.Fatalf("Score(%d) = %v, error %d", v, s, e)
			}
			if s > 1e99 {
				great++
			}
			if s == 0 {
				none++
			}
		}
	}
	behindCalls(t, look)
	for _, decay := range []float64{0.5, 0.9, 0.999} {
		h := made(t, 3, decay)
		for k := range 100000 {
			if h.Cool(); k%7 == 0 {
				bumps(t, h, 1, 2, 1)
			}
			look(h, 3)
		}
	}
	if great < 100 || none < 100 {
		t.Errorf("only %d great ones and %d that are 0", great, none)
	}
}

// P14.5: from the moment on when scaling makes scores the same the lesser number is the warmer one: behind each single Cool and Bump.
func TestSameFromThatMoment(t *testing.T) {
	joinings := 0
	for seed := range uint64(60) {
		draw := drawn(seed + 2000)
		n := 2 + draw.Intn(12)
		h, p := pair(t, n, []float64{0.5, 0.6, 0.9}[seed%3])
		for v := n; v >= 1; v-- {
			for range 1 + v + draw.Intn(2) {
				does(t, h, p, call{bump, v})
			}
		}
		for range 2500 {
			unlike, scaled := kinds(p.scores), p.scaled
			does(t, h, p, call{cool, 1})
			if draw.Intn(400) == 0 {
				does(t, h, p, call{bump, 1 + draw.Intn(n)})
			}
			if p.scaled > scaled && kinds(p.scores) < unlike {
				joinings++
			}
		}
	}
	if joinings < 20 {
		t.Errorf("only %d scalings made scores the same", joinings)
	}
}

// kinds: how many unlike scores there are.
func kinds(scores []float64) int {
	return len(slices.Compact(slices.Sorted(slices.Values(scores))))
}
