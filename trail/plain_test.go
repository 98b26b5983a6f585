package trail_test

import (
	"math"
	"slices"
	"testing"

	"depot/api"
	"depot/trail"
)

// decision stands for a reason where there is none.
const decision = -1

// far are numbers that are literals or variables of no trail.
var far = []int{api.MaxVar + 1, -api.MaxVar - 1, 2 * api.MaxVar, math.MaxInt32, math.MinInt32, 1 << 40, -1 << 40, math.MaxInt, math.MaxInt - 1, math.MinInt, math.MinInt + 1}

// item is a literal of a row, on its level, with its reason.
type item struct{ lit, level, reason int }

// plain is a trail by the chapter's words: the row alone, gone through for each question.
type plain struct {
	vars int
	row  []item
}

// isLit: is it a literal of the trail?
func (p *plain) isLit(l int) bool {
	return 1 <= l && l <= p.vars || -p.vars <= l && l <= -1
}

// find: the item of the literal's variable.
func (p *plain) find(l int) (item, bool) {
	for _, i := range p.row {
		if i.lit == l || i.lit == -l {
			return i, true
		}
	}
	return item{}, false
}

func (p *plain) level() int {
	n := 0
	for _, i := range p.row {
		if i.reason == decision {
			n++
		}
	}
	return n
}

func (p *plain) refuses(l int) api.Errno {
	if !p.isLit(l) {
		return api.ErrShape
	}
	if _, found := p.find(l); found {
		return api.ErrSet
	}
	return api.OK
}

func (p *plain) decide(l int) api.Errno {
	e := p.refuses(l)
	if e == api.OK {
		p.row = append(p.row, item{l, p.level() + 1, decision})
	}
	return e
}

func (p *plain) imply(l, reason int) api.Errno {
	e := p.refuses(l)
	if e == api.OK && reason < 0 {
		e = api.ErrRange
	}
	if e == api.OK {
		p.row = append(p.row, item{l, p.level(), reason})
	}
	return e
}

func (p *plain) back(level int) ([]int, api.Errno) {
	if level < 0 || level > p.level() {
		return nil, api.ErrRange
	}
	var out []int
	for len(p.row) > 0 && p.row[len(p.row)-1].level > level {
		out = append(out, p.row[len(p.row)-1].lit)
		p.row = p.row[:len(p.row)-1]
	}
	return out, api.OK
}

func (p *plain) value(l int) int8 {
	i, found := p.find(l)
	switch {
	case !p.isLit(l) || !found:
		return 0
	case i.lit == l:
		return 1
	}
	return -1
}

func (p *plain) levelOf(v int) int {
	if i, found := p.find(v); found && v > 0 {
		return i.level
	}
	return -1
}

func (p *plain) reason(v int) int {
	if i, found := p.find(v); found && v > 0 {
		return i.reason
	}
	return -1
}

func (p *plain) lits() []int {
	var out []int
	for _, i := range p.row {
		out = append(out, i.lit)
	}
	return out
}

func (p *plain) marks() []int {
	var out []int
	for k, i := range p.row {
		if i.reason == decision {
			out = append(out, k)
		}
	}
	return out
}

// look goes by the set of the clause's literals that are open.
func (p *plain) look(c []int) (int8, int) {
	if slices.ContainsFunc(c, func(l int) bool { return !p.isLit(l) }) {
		return 0, 0
	}
	if k := slices.IndexFunc(c, func(l int) bool { return p.value(l) == 1 }); k >= 0 {
		return 1, c[k]
	}
	open := slices.DeleteFunc(slices.Clone(c), func(l int) bool { return p.value(l) != 0 })
	slices.Sort(open)
	open = slices.Compact(open)
	switch len(open) {
	case 0:
		return -1, 0
	case 1:
		return 2, open[0]
	}
	return 0, 0
}

// holds: the trail answers all questions, but Look, as the plain one does.
func holds(t *testing.T, x *trail.Trail, p *plain) {
	t.Helper()
	if got := x.Level(); got != p.level() {
		t.Fatalf("Level = %d, wanted %d", got, p.level())
	}
	if got := x.Lits(); !slices.Equal(got, p.lits()) {
		t.Fatalf("Lits = %v, wanted %v", got, p.lits())
	}
	if got := x.Marks(); !slices.Equal(got, p.marks()) {
		t.Fatalf("Marks = %v, wanted %v", got, p.marks())
	}
	for l := -p.vars - 2; l <= p.vars+2; l++ {
		asks(t, x, p, l)
	}
	for _, l := range far {
		asks(t, x, p, l)
	}
}

// asks: the trail answers what can be asked of one number as the plain one does.
func asks(t *testing.T, x *trail.Trail, p *plain, l int) {
	t.Helper()
	if got := x.Value(l); got != p.value(l) {
		t.Fatalf("Value(%d) = %d, wanted %d", l, got, p.value(l))
	}
	if got := x.LevelOf(l); got != p.levelOf(l) {
		t.Fatalf("LevelOf(%d) = %d, wanted %d", l, got, p.levelOf(l))
	}
	if got := x.Reason(l); got != p.reason(l) {
		t.Fatalf("Reason(%d) = %d, wanted %d", l, got, p.reason(l))
	}
}

// looks: Look of the clause says that.
func looks(t *testing.T, x *trail.Trail, n int8, l int, c ...int) {
	t.Helper()
	if how, which := x.Look(c); how != n || which != l {
		t.Fatalf("Look(%v) = %d, %d; wanted %d, %d", c, how, which, n, l)
	}
}

// decides, implies, goesBack: the call of both, which answer the same.
func decides(t *testing.T, x *trail.Trail, p *plain, l int) {
	t.Helper()
	if got, want := x.Decide(l), p.decide(l); got != want {
		t.Fatalf("Decide(%d) = %d, wanted %d", l, got, want)
	}
}

func implies(t *testing.T, x *trail.Trail, p *plain, l, reason int) {
	t.Helper()
	if got, want := x.Imply(l, reason), p.imply(l, reason); got != want {
		t.Fatalf("Imply(%d, %d) = %d, wanted %d", l, reason, got, want)
	}
}

func goesBack(t *testing.T, x *trail.Trail, p *plain, level int) {
	t.Helper()
	got, e := x.Back(level)
	want, errno := p.back(level)
	if !slices.Equal(got, want) || e != errno {
		t.Fatalf("Back(%d) = %v, %d; wanted %v, %d", level, got, e, want, errno)
	}
}

// made: a trail of so many variables.
func made(t *testing.T, vars int) *trail.Trail {
	t.Helper()
	x, e := trail.New(vars)
	if x == nil || e != api.OK {
		t.Fatalf("New(%d): error %d", vars, e)
	}
	return x
}

// with: a trail of so many variables, and a plain one, with these items laid on it.
func with(t *testing.T, vars int, row ...item) (*trail.Trail, *plain) {
	t.Helper()
	x, p := made(t, vars), &plain{vars: vars}
	for _, i := range row {
		e := api.OK
		if i.reason == decision {
			e = x.Decide(i.lit)
		} else {
			e = x.Imply(i.lit, i.reason)
		}
		if e != api.OK {
			t.Fatalf("%v is refused with %d", i, e)
		}
		p.row = append(p.row, i)
	}
	return x, p
}

// some: a trail of 8 variables on level 3 of which 8 is open, level 2 being its decision alone.
func some(t *testing.T) (*trail.Trail, *plain) {
	t.Helper()
	return with(t, 8, item{2, 0, 7}, item{-5, 0, 0}, item{-1, 1, decision}, item{3, 1, 0}, item{-6, 2, decision}, item{4, 3, decision}, item{-7, 3, math.MaxInt})
}
