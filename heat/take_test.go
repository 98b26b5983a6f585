package heat_test

import (
	"slices"
	"testing"

	"depot/api"
	"depot/heat"
)

// takeAll: all that are within, as Take gives them.
func takeAll(h *heat.Heat) []int {
	var out []int
	for v, ok := h.Take(); ok; v, ok = h.Take() {
		out = append(out, v)
	}
	return out
}

// warmed: a Heat in which the variable v has the score scores[v-1].
func warmed(t *testing.T, scores ...int) *heat.Heat {
	t.Helper()
	h := made(t, len(scores), 0.5)
	for k, s := range scores {
		for range s {
			bumps(t, h, k+1)
		}
	}
	return h
}

// byScore: the variables by their scores, and by their numbers where those are the same.
func byScore(scores []int) []int {
	var out []int
	for s := slices.Max(scores); s >= 0; s-- {
		for k, x := range scores {
			if x == s {
				out = append(out, k+1)
			}
		}
	}
	return out
}

// P14.3: Take takes the warmest: all scores from 0 to 3 on five variables, the same ones among them.
func TestTakeTheWarmest(t *testing.T) {
	for k := range 1 << 10 {
		scores := []int{k & 3, k >> 2 & 3, k >> 4 & 3, k >> 6 & 3, k >> 8 & 3}
		h := warmed(t, scores...)
		want := byScore(scores)
		orderIs(t, h, want...)
		if got := takeAll(h); !slices.Equal(got, want) {
			t.Fatalf("of scores %v Take takes %v, not %v", scores, got, want)
		}
	}
}

// P14.3: where all scores are the same, the least number is taken, in whatever order they were put.
func TestTakeTheLeast(t *testing.T) {
	for n := range 40 {
		h := made(t, n, 0.95)
		takeAll(h)
		draw := drawn(uint64(n))
		row := upTo(n)
		for k := range row {
			other := draw.Intn(n)
			row[k], row[other] = row[other], row[k]
		}
		for _, v := range row {
			errorIs(t, "Put", h.Put(v), api.OK)
		}
		if got := takeAll(h); !slices.Equal(got, upTo(n)) {
			t.Errorf("Take takes %v", got)
		}
	}
}

// P14.3: what was taken is within no more, and its score stays.
func TestTaken(t *testing.T) {
	h := warmed(t, 1, 3, 2)
	for k, v := range []int{2, 3, 1} {
		takes(t, h, v)
		if h.In(v) {
			t.Errorf("%d is within", v)
		}
		scoreIs(t, h, v, float64(3-k))
		orderIs(t, h, []int{2, 3, 1}[k+1:]...)
	}
}

// P14.3: 0 and false, if none is within, as often as it is asked; and one that is put can be taken.
func TestTakeNone(t *testing.T) {
	h := warmed(t, 0, 1)
	takeAll(h)
	for range 3 {
		takes(t, h, 0)
		orderIs(t, h)
	}
	errorIs(t, "Put", h.Put(1), api.OK)
	takes(t, h, 1)
	takes(t, h, 0)
}

// P14.3: Put refuses one that is within, and nothing changes.
func TestPutWithin(t *testing.T) {
	h, p := pair(t, 4, 0.5)
	does(t, h, p, call{bump, 3}, call{bump, 2}, call{bump, 3})
	for range 2 {
		for v := 1; v <= 4; v++ {
			errorIs(t, "Put", h.Put(v), api.ErrSet)
			holds(t, h, p)
		}
	}
	does(t, h, p, call{take, 0}, call{put, 3}, call{put, 3}, call{take, 0}, call{take, 0}, call{put, 3}, call{put, 2}, call{put, 2})
	if got := takeAll(h); !slices.Equal(got, []int{3, 2, 1, 4}) {
		t.Errorf("Take takes %v", got)
	}
}

// P14.3: one that is put again stands where its score says, behind any number of times.
func TestPutAgain(t *testing.T) {
	scores := []int{2, 0, 5, 5, 1, 3}
	want := byScore(scores)
	h := warmed(t, scores...)
	for k := range 200 {
		var out []int
		for range k % 7 {
			v, _ := h.Take()
			out = append(out, v)
		}
		orderIs(t, h, want[k%7:]...)
		if k%2 == 0 {
			slices.Reverse(out)
		}
		for _, v := range out {
			errorIs(t, "Put", h.Put(v), api.OK)
			errorIs(t, "Put again", h.Put(v), api.ErrSet)
		}
		orderIs(t, h, want...)
	}
}

// P14.4: In tells variables that are within from those that aren't, and from what is no variable.
func TestIn(t *testing.T) {
	h := warmed(t, 0, 2, 0, 1)
	takes(t, h, 2)
	takes(t, h, 4)
	for v, want := range map[int]bool{1: true, 2: false, 3: true, 4: false} {
		if h.In(v) != want {
			t.Errorf("In(%d) = %v", v, !want)
		}
	}
	for _, v := range noVars(4) {
		if h.In(v) {
			t.Errorf("In(%d)", v)
		}
	}
}

// P14.4: Order behind Bumps, Takes and Puts.
func TestOrder(t *testing.T) {
	h := made(t, 5, 0.5)
	orderIs(t, h, 1, 2, 3, 4, 5)
	bumps(t, h, 5)
	orderIs(t, h, 5, 1, 2, 3, 4)
	bumps(t, h, 3)
	orderIs(t, h, 3, 5, 1, 2, 4)
	h.Cool()
	orderIs(t, h, 3, 5, 1, 2, 4)
	bumps(t, h, 4)
	orderIs(t, h, 4, 3, 5, 1, 2)
	takes(t, h, 4)
	orderIs(t, h, 3, 5, 1, 2)
	bumps(t, h, 2)
	orderIs(t, h, 2, 3, 5, 1)
	errorIs(t, "Put", h.Put(4), api.OK)
	orderIs(t, h, 2, 4, 3, 5, 1)
	bumps(t, h, 5, 5)
	orderIs(t, h, 5, 2, 4, 3, 1)
	takes(t, h, 5)
	takes(t, h, 2)
	orderIs(t, h, 4, 3, 1)
}
