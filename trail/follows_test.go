package trail_test

import (
	"slices"
	"testing"

	"depot/api"
	"depot/trail"
)

// drawer draws things by a rule of its own, so that they are the same at every run.
type drawer struct{ state uint64 }

func drawn(seed uint64) *drawer { return &drawer{seed} }

// Intn: a number from 0 to n - 1.
func (d *drawer) Intn(n int) int {
	d.state = d.state*6364136223846793005 + 1442695040888963407
	return int(d.state >> 33 % uint64(n))
}

// lit: a literal of so many variables, or, now and then, a number beside them.
func (d *drawer) lit(vars int) int {
	return d.Intn(2*vars+3) - vars - 1
}

// clause: a list of literals, some of them twice or opposite.
func (d *drawer) clause(vars int) []int {
	var c []int
	for range d.Intn(6) {
		c = append(c, (1+d.Intn(vars))*(1-2*d.Intn(2)))
	}
	return c
}

// call is one that may change a trail.
type call struct {
	kind   int // 0 Decide, 1 Imply, 2 Back
	number int // a literal or a level
	reason int
}

// call: of a trail with so many variables on that level; each fourth or so is refused.
func (d *drawer) call(vars, level int) call {
	switch n := d.Intn(10); {
	case n < 4:
		return call{0, d.lit(vars), 0}
	case n < 9:
		return call{1, d.lit(vars), d.Intn(12) - 1}
	}
	return call{2, d.Intn(level+3) - 1, 0}
}

// on carries the call out, and tells with which error and which literals it answers.
func (c call) on(x *trail.Trail) ([]int, api.Errno) {
	switch c.kind {
	case 0:
		return nil, x.Decide(c.number)
	case 1:
		return nil, x.Imply(c.number, c.reason)
	}
	return x.Back(c.number)
}

// onPlain: likewise, of a plain trail.
func (c call) onPlain(p *plain) ([]int, api.Errno) {
	switch c.kind {
	case 0:
		return nil, p.decide(c.number)
	case 1:
		return nil, p.imply(c.number, c.reason)
	}
	return p.back(c.number)
}

// both: the call of both answers the same.
func (c call) both(t *testing.T, x *trail.Trail, p *plain) {
	t.Helper()
	got, e := c.on(x)
	want, errno := c.onPlain(p)
	if !slices.Equal(got, want) || e != errno {
		t.Fatalf("%v answers %v, %d; wanted %v, %d", c, got, e, want, errno)
	}
}

// P5.1 to P5.6: all short rows of calls, against the chapter's words.
func TestAllShortRows(t *testing.T) {
	calls := []call{
		{0, 1, 0}, {0, -1, 0}, {0, 2, 0}, {0, 0, 0}, {0, 3, 0},
		{1, 1, 0}, {1, -2, 4}, {1, 2, -1}, {1, -3, 0},
		{2, 0, 0}, {2, 1, 0}, {2, 2, 0}, {2, -1, 0},
	}
	all := clauses(2, 1, -1, 2, -2, 3)
	const long = 4
	rows := 1
	for range long {
		rows *= len(calls)
	}
	for row := range rows {
		x, p := made(t, 2), &plain{vars: 2}
		for k, rest := 0, row; k < long; k, rest = k+1, rest/len(calls) {
			calls[rest%len(calls)].both(t, x, p)
		}
		holds(t, x, p)
		for _, c := range all {
			n, l := p.look(c)
			looks(t, x, n, l, c...)
		}
	}
}

// P5.1 to P5.6: long rows of calls, against the chapter's words.
func TestLongRows(t *testing.T) {
	draw := drawn(1)
	for range 60 {
		vars := 1 + draw.Intn(20)
		x, p := with(t, vars)
		for range 150 {
			draw.call(vars, x.Level()).both(t, x, p)
			holds(t, x, p)
			c := draw.clause(vars)
			n, l := p.look(c)
			looks(t, x, n, l, c...)
		}
	}
}

// P5.7: behind any calls no two literals of Lits are of one variable, there are as many Marks as the level, rising, each at a place of Lits, and LevelOf never falls along Lits.
func TestRowAndMarks(t *testing.T) {
	draw := drawn(2)
	for range 200 {
		vars := 1 + draw.Intn(12)
		x := made(t, vars)
		for range 80 {
			draw.call(vars, x.Level()).on(x)
			wantRow(t, x)
		}
	}
}

// wantRow: what P5.7 says of Lits, Marks and levels, by the trail's own answers alone.
func wantRow(t *testing.T, x *trail.Trail) {
	t.Helper()
	row, marks := x.Lits(), x.Marks()
	seen := map[int]int{}
	last, begun := 0, 0
	for k, l := range row {
		v := max(l, -l)
		if _, twice := seen[v]; twice {
			t.Fatalf("two literals of %d: %v", v, row)
		}
		seen[v] = k
		if begun < len(marks) && marks[begun] == k {
			begun++
		}
		if x.LevelOf(v) < last || x.LevelOf(v) != begun || x.Value(l) != 1 || x.Value(-l) != -1 {
			t.Fatalf("%d of %v stands on level %d, with the Marks %v", l, row, x.LevelOf(v), marks)
		}
		last = x.LevelOf(v)
	}
	if len(marks) != x.Level() || begun != len(marks) {
		t.Fatalf("the Marks %v of %v, on level %d", marks, row, x.Level())
	}
	for k, at := range marks {
		if at < 0 || at >= len(row) || k > 0 && at <= marks[k-1] {
			t.Fatalf("the Marks %v of %v", marks, row)
		}
	}
}

// answers: all that a trail of so many variables can be asked, as numbers.
func answers(x *trail.Trail, vars int) []int {
	out := append(x.Lits(), x.Level())
	out = append(out, x.Marks()...)
	for l := -vars - 1; l <= vars+1; l++ {
		out = append(out, int(x.Value(l)), x.LevelOf(l), x.Reason(l))
		for k := -vars - 1; k <= vars+1; k++ {
			n, which := x.Look([]int{k, l})
			out = append(out, int(n), which)
		}
	}
	return out
}

// carried are the calls that a trail took, and how many of them were there ahead of each level's decision.
type carried struct {
	calls []call
	ahead []int
}

// take notes a call that was OK; of a Back it keeps the calls ahead of the lowest decision that was taken out.
func (c *carried) take(one call) {
	switch {
	case one.kind == 0:
		c.ahead = append(c.ahead, len(c.calls))
	case one.kind == 2 && one.number < len(c.ahead):
		c.calls = c.calls[:c.ahead[one.number]]
		c.ahead = c.ahead[:one.number]
	}
	if one.kind != 2 {
		c.calls = append(c.calls, one)
	}
}

// P5.7: behind Back the trail answers as one to which nothing of the levels above had ever happened, now and in all that follows.
func TestBackUndoes(t *testing.T) {
	draw, backs := drawn(3), 0
	for range 150 {
		vars := 1 + draw.Intn(7)
		x, c := made(t, vars), carried{}
		for range 60 {
			one := draw.call(vars, x.Level())
			level := x.Level()
			if _, e := one.on(x); e != api.OK {
				continue
			}
			c.take(one)
			if one.kind != 2 || one.number >= level {
				continue
			}
			backs++
			y := made(t, vars)
			for _, was := range c.calls {
				if _, e := was.on(y); e != api.OK {
					t.Fatalf("%v is refused with %d", was, e)
				}
			}
			wantAlike(t, x, y, vars)
			alikeGoingOn(t, draw, x, y, &c, vars)
		}
	}
	if backs < 100 {
		t.Errorf("only %d times back", backs)
	}
}

// alikeGoingOn: both trails answer a few further calls alike.
func alikeGoingOn(t *testing.T, draw *drawer, x, y *trail.Trail, c *carried, vars int) {
	t.Helper()
	for range 8 {
		one := draw.call(vars, x.Level())
		got, e := one.on(x)
		want, errno := one.on(y)
		if !slices.Equal(got, want) || e != errno {
			t.Fatalf("%v answers %v, %d; and %v, %d where nothing was undone", one, got, e, want, errno)
		}
		if e == api.OK {
			c.take(one)
		}
		wantAlike(t, x, y, vars)
	}
}

func wantAlike(t *testing.T, x, y *trail.Trail, vars int) {
	t.Helper()
	if !slices.Equal(answers(x, vars), answers(y, vars)) {
		t.Fatalf("behind Back: %v and %v, %v and %v", x.Lits(), x.Marks(), y.Lits(), y.Marks())
	}
}

// P5.7: where Look tells 2 and a literal, it tells 1 and the literal behind Imply, until that is taken out.
func TestLookComesTrue(t *testing.T) {
	draw, units := drawn(4), 0
	for range 3000 {
		vars := 2 + draw.Intn(6)
		x := made(t, vars)
		for range draw.Intn(10) {
			draw.call(vars, x.Level()).on(x)
		}
		c := draw.clause(vars)
		n, l := x.Look(c)
		if n != 2 {
			continue
		}
		units++
		if !slices.Contains(c, l) || x.Imply(l, draw.Intn(5)) != api.OK {
			t.Fatalf("Look(%v) = 2, %d, which is not to be implied", c, l)
		}
		for range 12 {
			looks(t, x, 1, l, c...)
			draw.call(vars, x.Level()).on(x)
			if x.LevelOf(max(l, -l)) < 0 {
				break
			}
		}
		if x.Value(l) == 1 {
			looks(t, x, 1, l, c...)
		}
	}
	if units < 200 {
		t.Errorf("only %d times 2", units)
	}
}

// P5.7: so it is beside other levels, and when the literal is taken out the clause stands as it did.
func TestLookUntilTakenOut(t *testing.T) {
	x, p := with(t, 4, item{1, 1, decision}, item{-2, 2, decision})
	clause := []int{-1, 2, -3, 2, -3}
	looks(t, x, 2, -3, clause...)
	implies(t, x, p, -3, 8)
	looks(t, x, 1, -3, clause...)
	decides(t, x, p, 4)
	looks(t, x, 1, -3, clause...)
	goesBack(t, x, p, 2)
	looks(t, x, 1, -3, clause...)
	goesBack(t, x, p, 1)
	looks(t, x, 0, 0, clause...)
	implies(t, x, p, -2, 0)
	looks(t, x, 2, -3, clause...)
	decides(t, x, p, 3)
	looks(t, x, -1, 0, clause...)
	holds(t, x, p)
}
