package heat_test

import (
	"runtime"
	"slices"
	"sync"
	"testing"

	"depot/heat"
)

// spoil writes all over a list and the room behind its end, and lets it grow.
func spoil(c []int) {
	whole := c[:cap(c)]
	for k := range whole {
		whole[k] = 999
	}
	for range 20 {
		c = append(c, 888)
	}
}

// Memory: an Order is the caller's, with the room behind its end: neither the Heat nor another Order changes with it.
func TestOrdersAreTheCallers(t *testing.T) {
	for n := range 20 {
		h, p := pair(t, n, 0.5)
		for k := range n {
			does(t, h, p, call{bump, n - k/2}, call{cool, 1})
		}
		for range n + 1 {
			one, two := h.Order(), h.Order()
			want := slices.Clone(two)
			spoil(one)
			spoil(h.Order())
			if !slices.Equal(two, want) {
				t.Errorf("another order is spoilt: %v, was %v", two, want)
			}
			holds(t, h, p)
			does(t, h, p, call{take, 0})
		}
		for v := range n {
			does(t, h, p, call{put, v + 1})
			spoil(h.Order())
			holds(t, h, p)
		}
	}
}

// Memory: an Order stays as it is, whatever happens to the Heat, and doesn't grow into it.
func TestOrdersStay(t *testing.T) {
	h, p := pair(t, 6, 0.5)
	does(t, h, p, call{bump, 4}, call{bump, 2}, call{bump, 4}, call{take, 0})
	row := append(h.Order(), 100)
	does(t, h, p, call{put, 4}, call{bump, 6}, call{cool, 333}, call{bump, 5}, call{bump, 5}, call{cool, 1000}, call{take, 0}, call{take, 0})
	if row = append(row, 101); !slices.Equal(row, []int{2, 1, 3, 5, 6, 100, 101}) {
		t.Errorf("the order is %v now", row)
	}
	holds(t, h, p)
}

// Objects: two Heats know nothing of one another.
func TestHeatsApart(t *testing.T) {
	h, p := pair(t, 5, 0.5)
	other, q := pair(t, 5, 0.5)
	draw := drawn(7)
	for range 300 {
		does(t, h, p, draw.call(5))
		holds(t, other, q)
		does(t, other, q, draw.call(5))
		holds(t, h, p)
	}
}

// Sameness: to ask changes nothing.
func TestAskingChangesNothing(t *testing.T) {
	behindCalls(t, func(h *heat.Heat, n int) {
		want := answers(h, n)
		for range 2 {
			if !slices.Equal(answers(h, n), want) {
				t.Fatal("asked again, it answers otherwise")
			}
		}
	})
}

// told: all that a Heat answers behind a drawn row of calls, as numbers.
func told(seed uint64) []uint64 {
	const n = 7
	draw := drawn(seed)
	h, e := heat.New(n, []float64{0.5, 0.7, 0.95, 2}[seed%4])
	out := []uint64{uint64(e)}
	if h == nil {
		return out
	}
	for range 200 {
		got := draw.call(n).on(h)
		out = append(out, uint64(got[0]), uint64(got[1]))
		out = append(out, answers(h, n)...)
	}
	return out
}

// Sameness: the same calls answer the same.
func TestSameAgain(t *testing.T) {
	for seed := range uint64(20) {
		want := told(seed)
		for range 3 {
			if !slices.Equal(told(seed), want) {
				t.Fatalf("the calls of %d answered otherwise", seed)
			}
		}
	}
}

// Sameness, Objects: so they do while others work with Heats of their own.
func TestSameBesideOneAnother(t *testing.T) {
	want := [][]uint64{told(0), told(1), told(2), told(3)}
	var group sync.WaitGroup
	for k := range 16 {
		group.Go(func() {
			for range 5 {
				if seed := k % 4; !slices.Equal(told(uint64(seed)), want[seed]) {
					t.Errorf("the calls of %d answered otherwise", seed)
				}
			}
		})
	}
	group.Wait()
}

// Sameness: on one processor or many.
func TestSameOnOneProcessor(t *testing.T) {
	want := told(1)
	defer runtime.GOMAXPROCS(runtime.GOMAXPROCS(1))
	if !slices.Equal(told(1), want) {
		t.Error("on one processor the calls answered otherwise")
	}
}

// Sameness: no call leaves a goroutine behind.
func TestNoGoroutineLeft(t *testing.T) {
	before := runtime.NumGoroutine()
	for seed := range uint64(20) {
		told(seed)
	}
	if now := runtime.NumGoroutine(); now > before {
		t.Errorf("%d goroutines, %d before", now, before)
	}
}
