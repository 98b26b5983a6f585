package heat_test

import (
	"math"
	"math/big"
	"slices"
	"testing"

	"depot/api"
	"depot/heat"
)

// reckoning is how a plain heat adds, multiplies and divides.
type reckoning struct {
	sum, product, quotient func(a, b float64) float64
}

// machine: as Go does it, each result rounded by itself.
func machine() reckoning {
	return reckoning{
		sum:      func(a, b float64) float64 { return float64(a + b) },
		product:  func(a, b float64) float64 { return float64(a * b) },
		quotient: func(a, b float64) float64 { return float64(a / b) },
	}
}

// exact: in fractions, each result rounded once.
func exact() reckoning {
	by := func(f func(z, a, b *big.Rat) *big.Rat) func(a, b float64) float64 {
		return func(a, b float64) float64 {
			out, _ := f(new(big.Rat), new(big.Rat).SetFloat64(a), new(big.Rat).SetFloat64(b)).Float64()
			return out
		}
	}
	return reckoning{by((*big.Rat).Add), by((*big.Rat).Mul), by((*big.Rat).Quo)}
}

// plain: a Heat by the chapter's words; what is the warmest is looked for anew each time.
type plain struct {
	reckoning
	decay, step float64
	scores      []float64 // the variable v's at v - 1
	within      []bool    // likewise
	scaled      int       // how often
}

func newPlain(n int, decay float64, r reckoning) *plain {
	p := &plain{reckoning: r, decay: decay, step: 1, scores: make([]float64, n), within: make([]bool, n)}
	for k := range p.within {
		p.within[k] = true
	}
	return p
}

func (p *plain) has(v int) bool { return v >= 1 && v <= len(p.scores) }

func (p *plain) scale() {
	for k := range p.scores {
		p.scores[k] = p.product(p.scores[k], 1e-100)
	}
	p.step = p.product(p.step, 1e-100)
	p.scaled++
}

func (p *plain) Bump(v int) api.Errno {
	if !p.has(v) {
		return api.ErrRange
	}
	p.scores[v-1] = p.sum(p.scores[v-1], p.step)
	if p.scores[v-1] > 1e100 {
		p.scale()
	}
	return api.OK
}

func (p *plain) Cool() {
	p.step = p.quotient(p.step, p.decay)
	if p.step > 1e100 {
		p.scale()
	}
}

func (p *plain) Order() []int {
	var out []int
	for v := range len(p.scores) + 1 {
		if p.In(v) {
			out = append(out, v)
		}
	}
	// What is sorted stays in its order where scores are the same: the numbers rise.
	slices.SortStableFunc(out, func(a, b int) int {
		switch x, y := p.scores[a-1], p.scores[b-1]; {
		case x > y:
			return -1
		case x < y:
			return 1
		}
		return 0
	})
	return out
}

func (p *plain) Take() (int, bool) {
	row := p.Order()
	if len(row) == 0 {
		return 0, false
	}
	p.within[row[0]-1] = false
	return row[0], true
}

func (p *plain) Put(v int) api.Errno {
	if !p.has(v) {
		return api.ErrRange
	}
	if p.within[v-1] {
		return api.ErrSet
	}
	p.within[v-1] = true
	return api.OK
}

func (p *plain) In(v int) bool { return p.has(v) && p.within[v-1] }

func (p *plain) Score(v int) (float64, api.Errno) {
	if !p.has(v) {
		return 0, api.ErrRange
	}
	return p.scores[v-1], api.OK
}

// asked: what a Heat and a plain one both answer.
type asked interface {
	Bump(v int) api.Errno
	Cool()
	Take() (int, bool)
	Put(v int) api.Errno
	In(v int) bool
	Score(v int) (float64, api.Errno)
	Order() []int
}

// answers: all that can be asked without a change, as numbers.
func answers(h asked, n int) []uint64 {
	var out []uint64
	for v := -2; v <= n+2; v++ {
		in := uint64(0)
		if h.In(v) {
			in = 1
		}
		s, e := h.Score(v)
		out = append(out, in, math.Float64bits(s), uint64(e))
	}
	for _, v := range h.Order() {
		out = append(out, uint64(v))
	}
	return out
}

// call is one that changes something: of the variable v, or so many times.
type call struct {
	what int
	v    int
}

const (
	bump = iota
	cool
	take
	put
)

// on carries a call out; what it answers, as numbers.
func (c call) on(h asked) [2]int {
	switch c.what {
	case bump:
		return [2]int{int(h.Bump(c.v))}
	case cool:
		for range c.v {
			h.Cool()
		}
	case take:
		if v, ok := h.Take(); ok {
			return [2]int{v, 1}
		} else if v != 0 {
			return [2]int{v, 0}
		}
	case put:
		return [2]int{int(h.Put(c.v))}
	}
	return [2]int{}
}

// holds: does the Heat answer all that the plain one does?
func holds(t *testing.T, h *heat.Heat, p *plain) {
	t.Helper()
	n := len(p.scores)
	if !slices.Equal(answers(h, n), answers(p, n)) {
		t.Fatalf("the order is %v, not %v, or scores and who is within are others: %v", h.Order(), p.Order(), p.scores)
	}
}

// pair: a Heat and a plain one, of the same numbers.
func pair(t *testing.T, n int, decay float64) (*heat.Heat, *plain) {
	t.Helper()
	return made(t, n, decay), newPlain(n, decay, machine())
}

func made(t *testing.T, n int, decay float64) *heat.Heat {
	t.Helper()
	h, e := heat.New(n, decay)
	if h == nil || e != api.OK {
		t.Fatalf("New(%d, %v): error %d", n, decay, e)
	}
	return h
}

// does carries calls out on both, and holds them against one another behind each.
func does(t *testing.T, h *heat.Heat, p *plain, calls ...call) {
	t.Helper()
	for _, c := range calls {
		if got, want := c.on(h), c.on(p); got != want {
			t.Fatalf("call %v answered %v, not %v", c, got, want)
		}
		holds(t, h, p)
	}
}

// drawer draws numbers by a rule of its own, so that they are the same at every run.
type drawer struct{ state uint64 }

func drawn(seed uint64) *drawer { return &drawer{seed*2654435761 + 12345} }

// Intn: a number from 0 to n - 1.
func (d *drawer) Intn(n int) int {
	d.state = d.state*6364136223846793005 + 1442695040888963407
	return int(d.state>>33) % n
}

// call: one of all kinds, its variable now and then none of n.
func (d *drawer) call(n int) call {
	switch d.Intn(10) {
	case 0, 1, 2, 3:
		return call{bump, d.Intn(n+3) - 1}
	case 4, 5:
		return call{cool, 1 + d.Intn(3)}
	case 6:
		return call{cool, []int{1, 52, 53, 100, 331, 332, 333, 400}[d.Intn(8)]}
	case 7:
		return call{take, 0}
	}
	return call{put, d.Intn(n+3) - 1}
}

// everyRow shows all rows of so many of the calls.
func everyRow(calls []call, length int, show func(row []call)) {
	row := make([]call, 0, length)
	var onward func()
	onward = func() {
		if len(row) == length {
			show(row)
			return
		}
		for _, c := range calls {
			row = append(row, c)
			onward()
			row = row[:len(row)-1]
		}
	}
	onward()
}

// All rows of five calls, on three variables.
func TestAllRows(t *testing.T) {
	calls := []call{{bump, 0}, {bump, 1}, {bump, 2}, {bump, 3}, {cool, 1}, {take, 0}, {put, 1}, {put, 2}, {put, 3}, {put, 4}}
	everyRow(calls, 5, func(row []call) {
		h, p := pair(t, 3, 0.5)
		for _, c := range row {
			if c.on(h) != c.on(p) {
				t.Fatalf("%v: call %v answered otherwise", row, c)
			}
		}
		holds(t, h, p)
	})
}

// All rows of six calls that lead to scaling, by the step and by a score.
func TestAllRowsThatScale(t *testing.T) {
	calls := []call{{bump, 1}, {bump, 2}, {cool, 1}, {cool, 332}, {take, 0}, {put, 1}}
	scaled := 0
	everyRow(calls, 6, func(row []call) {
		h, p := pair(t, 2, 0.5)
		for _, c := range row {
			if c.on(h) != c.on(p) {
				t.Fatalf("%v: call %v answered otherwise", row, c)
			}
		}
		holds(t, h, p)
		scaled += p.scaled
	})
	if scaled < 10000 {
		t.Errorf("scaled %d times only", scaled)
	}
}

// Drawn rows of calls, on few variables and on many, at all kinds of decays.
func TestDrawnRows(t *testing.T) {
	decays := []float64{0.5, math.Nextafter(0.5, 1), 0.6, 0.75, 0.8, 0.95, 0.999, math.Nextafter(1, 0), 1}
	scaled := 0
	for seed := range uint64(450) {
		draw := drawn(seed)
		n := []int{1, 2, 3, 5, 8, 16, 40}[draw.Intn(7)]
		h, p := pair(t, n, decays[seed%9])
		for range 120 {
			does(t, h, p, draw.call(n))
		}
		scaled += p.scaled
	}
	if scaled < 500 {
		t.Errorf("scaled %d times only", scaled)
	}
}
