package arena_test

import (
	"math"
	"slices"
	"testing"

	"depot/api"
	"depot/arena"
)

// drawer draws things by a rule of its own, so that they are the same at every run.
type drawer struct{ state uint64 }

func drawn(seed uint64) *drawer { return &drawer{seed} }

// Intn: a number from 0 to n - 1.
func (d *drawer) Intn(n int) int {
	d.state = d.state*6364136223846793005 + 1442695040888963407
	return int(d.state >> 33 % uint64(n))
}

// clause: a list with few literals or many, some of them twice or opposite.
func (d *drawer) clause() []int {
	top := []int{2, 50, api.MaxVar}[d.Intn(3)]
	var c []int
	for range d.Intn(6) {
		c = append(c, (1+d.Intn(top))*(1-2*d.Intn(2)))
	}
	return c
}

// plain is an arena by the chapter's words: a list of the live clauses, with their places written beside them, and a count of words.
type plain struct {
	words int
	live  []entry
}

func (p *plain) put(c []int, is bool) arena.Ref {
	r := arena.Ref(p.words)
	p.live = append(p.live, entry{r, is, slices.Clone(c)})
	p.words += 1 + len(c)
	return r
}

func (p *plain) drop(r arena.Ref) api.Errno {
	for k, e := range p.live {
		if e.at == r {
			p.live = slices.Delete(slices.Clone(p.live), k, k+1)
			return api.OK
		}
	}
	return api.ErrRange
}

// sweep: the pairs of old and new places.
func (p *plain) sweep() [][2]arena.Ref {
	var pairs [][2]arena.Ref
	next := plain{}
	for _, e := range p.live {
		pairs = append(pairs, [2]arena.Ref{e.at, next.put(e.lits, e.learnt)})
	}
	*p = next
	return pairs
}

// act: one of a few calls, of both; what they answer is compared.
func act(t *testing.T, a *arena.Arena, p *plain, call int) {
	t.Helper()
	lists := [][]int{nil, {1}, {2, -2}, {0}}
	switch {
	case call < 3:
		c, is := lists[call], call == 1
		if r, e := a.Put(c, is); r != p.put(c, is) || e != api.OK {
			t.Fatalf("Put(%v) = %d, %d", c, r, e)
		}
	case call == 3:
		if r, e := a.Put(lists[3], true); r != 0 || e != api.ErrShape {
			t.Fatalf("Put = %d, %d", r, e)
		}
	case call == 4:
		leads(t, a.Sweep(), p.sweep()...)
	default:
		r := arena.Ref(call - 5)
		if e := a.Drop(r); e != p.drop(r) {
			t.Fatalf("Drop(%d) = %d", r, e)
		}
	}
}

// P4.1 to P4.6: all short rows of calls, against the chapter's words.
func TestAllShortRows(t *testing.T) {
	const calls, long = 10, 5
	rows := 1
	for range long {
		rows *= calls
	}
	for row := range rows {
		a, p := arena.New(), &plain{}
		for k, rest := 0, row; k < long; k, rest = k+1, rest/calls {
			act(t, a, p, rest%calls)
		}
		holds(t, a, p.words, p.live...)
	}
}

// P4.1 to P4.6: long rows of calls, against the chapter's words.
func TestLongRows(t *testing.T) {
	draw := drawn(1)
	for range 60 {
		a, p := arena.New(), &plain{}
		for range 150 {
			switch n := draw.Intn(12); {
			case n < 6:
				c, is := draw.clause(), draw.Intn(2) == 0
				if r, e := a.Put(c, is); r != p.put(c, is) || e != api.OK {
					t.Fatalf("Put(%v) = %d, %d", c, r, e)
				}
			case n < 8:
				r := arena.Ref(draw.Intn(p.words+2) - 1)
				if e := a.Drop(r); e != p.drop(r) {
					t.Fatalf("Drop(%d) = %d", r, e)
				}
			case n < 11 && len(p.live) > 0:
				r := p.live[draw.Intn(len(p.live))].at
				if e := a.Drop(r); e != p.drop(r) {
					t.Fatalf("Drop(%d) = %d", r, e)
				}
			case draw.Intn(4) == 0:
				swept(t, a, p)
			}
			holds(t, a, p.words, p.live...)
		}
	}
}

// swept: Sweep of both, compared by all places that there were.
func swept(t *testing.T, a *arena.Arena, p *plain) {
	t.Helper()
	words := p.words
	f, went := a.Sweep(), map[arena.Ref]arena.Ref{}
	for _, pair := range p.sweep() {
		went[pair[0]] = pair[1]
	}
	for r := arena.Ref(-2); r < arena.Ref(words)+3; r++ {
		to, ok := f(r)
		if is, wanted := went[r]; to != is || ok != wanted {
			t.Fatalf("%d went to %d, %v; wanted %d, %v", r, to, ok, is, wanted)
		}
	}
}

// kept is a clause that was put, by what Put answered, and how many Sweeps there had been.
type kept struct {
	entry
	sweeps int
	gone   bool
}

// now: where the clause is now, by the functions of all Sweeps since.
func (k kept) now(t *testing.T, sweeps []func(arena.Ref) (arena.Ref, bool)) (arena.Ref, bool) {
	t.Helper()
	r := k.at
	for _, f := range sweeps[k.sweeps:] {
		to, ok := f(r)
		if !ok {
			if to != 0 {
				t.Fatalf("%d went to %d, and didn't", r, to)
			}
			return 0, false
		}
		r = to
	}
	return r, true
}

// P4.7: what was put and not dropped is found, through the functions of all Sweeps since; nothing else is.
func TestWhatWasPutIsFound(t *testing.T) {
	draw := drawn(2)
	for range 40 {
		a := arena.New()
		var all []kept
		var sweeps []func(arena.Ref) (arena.Ref, bool)
		for range 120 {
			switch n := draw.Intn(10); {
			case n < 6:
				c, is := draw.clause(), draw.Intn(2) == 0
				r, e := a.Put(c, is)
				if e != api.OK {
					t.Fatalf("Put(%v): error %d", c, e)
				}
				all = append(all, kept{entry{r, is, c}, len(sweeps), false})
			case n < 9 && len(all) > 0:
				k := draw.Intn(len(all))
				if r, ok := all[k].now(t, sweeps); ok && !all[k].gone {
					drops(t, a, r)
				}
				all[k].gone = true
			default:
				sweeps = append(sweeps, a.Sweep())
			}
		}
		wantFound(t, a, all, sweeps)
		sweeps = append(sweeps, a.Sweep())
		wantFound(t, a, all, sweeps)
	}
}

// wantFound: the clauses that aren't gone stand where the Sweeps' functions say, one behind the other as they were put; and no others do.
func wantFound(t *testing.T, a *arena.Arena, all []kept, sweeps []func(arena.Ref) (arena.Ref, bool)) {
	t.Helper()
	var want []entry
	for _, k := range all {
		r, ok := k.now(t, sweeps)
		switch {
		case !k.gone && !ok:
			t.Fatalf("the clause %v is lost", k)
		case !k.gone:
			want = append(want, k.moved(r))
		case ok:
			// Dropped since the last Sweep: its function still tells where it was.
			hasNot(t, a, r)
		}
	}
	if !slices.IsSortedFunc(want, func(e, o entry) int { return int(e.at - o.at) }) {
		t.Fatalf("not in the order in which they were put: %v", want)
	}
	holds(t, a, a.Words(), want...)
}

// Any argument: no call panics, whatever numbers are handed in.
func TestAnyNumber(t *testing.T) {
	a, left := some(t)
	f := a.Sweep()
	want := []entry{left[0].moved(0), left[1].moved(1), left[2].moved(5), left[3].moved(7)}
	numbers := []int{math.MinInt, math.MinInt + 1, math.MaxInt, math.MaxInt - 1, math.MaxInt32, math.MinInt32, 1 << 40, -1 << 40}
	for _, n := range numbers {
		r := arena.Ref(n)
		hasNot(t, a, r)
		dropsNot(t, a, r)
		if to, ok := f(r); to != 0 || ok {
			t.Errorf("%d went to %d, %v", n, to, ok)
		}
		if r, e := a.Put([]int{n}, true); r != 0 || e != api.ErrShape {
			t.Errorf("Put(%d) = %d, %d", n, r, e)
		}
	}
	holds(t, a, 8, want...)
}
