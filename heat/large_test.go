package heat_test

import (
	"slices"
	"testing"

	"depot/api"
)

// As many variables as there may be: the last ones are variables like the first, and one more is none.
func TestMaxVar(t *testing.T) {
	const n = api.MaxVar
	h := made(t, n, 0.5)
	if row := h.Order(); !slices.Equal(row, upTo(n)) {
		t.Fatalf("the order has %d variables", len(row))
	}
	errorIs(t, "Bump", h.Bump(n+1), api.ErrRange)
	errorIs(t, "Put", h.Put(n+1), api.ErrRange)
	errorIs(t, "Put", h.Put(n), api.ErrSet)
	if h.In(n+1) || !h.In(n) {
		t.Error("In")
	}
	bumps(t, h, n, n, n-1, 1)
	for _, v := range []int{n, 1, n - 1, 2, 3} {
		takes(t, h, v)
	}
	errorIs(t, "Put", h.Put(n), api.OK)
	scoreIs(t, h, n, 2)
	takes(t, h, n)
	cools(h, 333)
	scoreIs(t, h, n, small(2))
	takes(t, h, 4)
}

// The variables of a great Heat are taken by their scores, ahead of a scaling and behind it.
func TestManyTaken(t *testing.T) {
	const n = 1 << 17
	h, draw := made(t, n, 0.5), drawn(3)
	for k := range n {
		if k%(n/40) == 0 {
			h.Cool()
		}
		bumps(t, h, 1+draw.Intn(n))
	}
	for range 3 {
		row := h.Order()
		got := takeAll(h)
		if len(got) != n || !slices.Equal(got, row) {
			t.Fatal("Take takes others than Order says")
		}
		for _, v := range upTo(n) {
			h.Put(v)
		}
		cools(h, 333)
	}
}

// Many calls on many variables come to an end soon: neither a Bump nor a Take goes through all of them.
func TestManyCalls(t *testing.T) {
	const n = api.MaxVar
	h, draw := made(t, n, 0.95), drawn(5)
	var out []int
	for range 200000 {
		bumps(t, h, 1+draw.Intn(n), n-draw.Intn(50))
		h.Cool()
		v, _ := h.Take()
		if out = append(out, v); len(out) == 50 {
			for _, v := range out {
				errorIs(t, "Put", h.Put(v), api.OK)
			}
			out = out[:0]
		}
	}
	if row := h.Order(); len(row) != n-len(out) {
		t.Errorf("%d are within", len(row))
	}
}
