package learn_test

import (
	"slices"
	"testing"

	"depot/api"
	"depot/learn"
)

// drawer draws things by a rule of its own, so that they are the same at every run.
type drawer struct{ state uint64 }

func drawn(seed uint64) *drawer { return &drawer{seed*2654435761 + 12345} }

// Intn: a number from 0 to n - 1.
func (d *drawer) Intn(n int) int {
	d.state = d.state*6364136223846793005 + 1442695040888963407
	return int(d.state >> 33 % uint64(n))
}

// names: so many variables in no order, each with a sign.
func (d *drawer) names(n int) []int {
	out := make([]int, n)
	for k := range out {
		other := d.Intn(k + 1)
		out[k] = out[other]
		out[other] = (k + 1) * (1 - 2*d.Intn(2))
	}
	return out
}

// some: each of these with that chance in ten, in no order, now and then twice.
func (d *drawer) some(of []int, chance int) []int {
	var out []int
	for _, x := range of {
		for d.Intn(10) < chance && len(out) < 3*len(of) {
			k := d.Intn(len(out) + 1)
			out = slices.Insert(out, k, x)
			if d.Intn(4) > 0 {
				break
			}
		}
	}
	return out
}

// trail: a trail that is well shaped.
func (d *drawer) trail(entries int) []api.Entry {
	var out []api.Entry
	var against []int // the opposites of what is true
	level, begun := d.Intn(2), false
	for _, x := range d.names(entries) {
		if level > 0 && begun && d.Intn(4) > 0 || level == 0 && d.Intn(2) > 0 {
			reason := d.some(against, 1+d.Intn(5))
			out = append(out, at(x, level, slices.Insert(reason, d.Intn(len(reason)+1), x)...))
		} else if level == 0 && d.Intn(2) > 0 {
			out = append(out, at(x, 0))
		} else {
			if level == 0 || begun {
				level++
			}
			begun = true
			out = append(out, at(x, level))
		}
		against = append(against, -x)
	}
	return out
}

// spoilt: the same with one thing in it changed, which may be a fault.
func (d *drawer) spoilt(trail []api.Entry) []api.Entry {
	out := slices.Clone(trail)
	x := &out[d.Intn(len(out))]
	switch d.Intn(7) {
	case 0:
		x.Lit = d.Intn(2*len(out)+3) - len(out) - 1
	case 1:
		x.Level += d.Intn(5) - 2
	case 2:
		x.Reason = nil
	case 3:
		x.Reason = append(slices.Clone(x.Reason), d.Intn(2*len(out)+3)-len(out)-1)
	case 4:
		x.Reason = d.some(x.Reason, 8)
	case 5:
		y := &out[d.Intn(len(out))]
		*x, *y = *y, *x
	case 6:
		k := d.Intn(len(out))
		out = slices.Delete(out, k, k+1)
	}
	return out
}

// against: the opposites of what is true.
func against(trail []api.Entry) []int {
	var out []int
	for _, x := range trail {
		out = append(out, -x.Lit)
	}
	return out
}

// clause: most are false under the trail.
func (d *drawer) clause(trail []api.Entry) []int {
	out := d.some(against(trail), 1+d.Intn(9))
	if d.Intn(8) == 0 {
		n := len(trail) + 1
		out = slices.Insert(out, d.Intn(len(out)+1), d.Intn(2*n+1)-n)
	}
	return out
}

// P15.1 to P15.4: drawn trails and clauses, against the chapter's words.
func TestDrawn(t *testing.T) {
	for seed := range uint64(12000) {
		draw := drawn(seed)
		trail := draw.trail(1 + draw.Intn(14))
		if !plainFormed(trail) {
			t.Fatalf("%v isn't well shaped", trail)
		}
		for range 6 {
			holds(t, trail, draw.clause(trail))
		}
	}
}

// P15.1 to P15.4: drawn trails with a change, many of which aren't well shaped any more.
func TestDrawnAndSpoilt(t *testing.T) {
	good, bad := 0, 0
	for seed := range uint64(20000) {
		draw := drawn(seed + 100000)
		trail := draw.spoilt(draw.trail(1 + draw.Intn(8)))
		holds(t, trail, draw.clause(trail))
		if learn.Formed(trail) {
			good++
		} else {
			bad++
		}
	}
	if good < 2000 || bad < 2000 {
		t.Errorf("%d well shaped, %d not", good, bad)
	}
}

// lists: all lists of up to so many of these, with those that hold one twice.
func lists(most int, of []int) [][]int {
	out := [][]int{nil}
	for from := 0; most > 0; most-- {
		upto := len(out)
		for _, c := range out[from:upto] {
			for _, x := range of {
				out = append(out, append(slices.Clone(c), x))
			}
		}
		from = upto
	}
	return out
}

// P15.1: all short trails of some entries, kept and broken in every way beside one another.
func TestAllShortTrails(t *testing.T) {
	var entries []api.Entry
	for _, lit := range list(1, -1, 2, -2, 0) {
		for level := range 3 {
			for _, reason := range lists(2, list(1, -1, 2, -2, 3)) {
				if len(reason) == 0 || slices.Contains(reason, lit) || reason[0] == -lit {
					entries = append(entries, at(lit, level, reason...))
				}
			}
		}
	}
	count := 0
	for _, a := range entries {
		for _, b := range entries {
			trail := []api.Entry{a, b}
			got := learn.Formed(trail)
			if got != plainFormed(trail) {
				t.Fatalf("Formed(%v) = %v", trail, got)
			}
			if got {
				count++
			}
		}
	}
	if count < 50 {
		t.Errorf("only %d are well shaped", count)
	}
}

// grown: the trail, and all that are well shaped and go on from it over the variables of these names, each reason's others among all ahead.
func grown(trail []api.Entry, names []int, show func(trail []api.Entry)) {
	show(trail)
	if len(trail) == len(names) {
		return
	}
	x, level := names[len(trail)], 0
	if len(trail) > 0 {
		level = trail[len(trail)-1].Level
	}
	extend := func(next api.Entry) { grown(append(slices.Clip(trail), next), names, show) }
	extend(at(x, level+1))
	if level == 0 {
		extend(at(x, 0))
	}
	if len(trail) == 0 {
		extend(at(x, 0, x))
		return
	}
	for which := range 1 << len(trail) {
		reason := list(x)
		for k, y := range trail {
			if which>>k&1 > 0 {
				reason = append(reason, -y.Lit)
			}
		}
		extend(at(x, level, reason...))
	}
}

// orders: all orders of all parts of these.
func orders(of []int) [][]int {
	out := [][]int{nil}
	for k, x := range of {
		rest := slices.Delete(slices.Clone(of), k, k+1)
		for _, c := range orders(rest) {
			out = append(out, append(list(x), c...))
		}
	}
	return out
}

// P15.2 to P15.4: all trails of up to four entries that are well shaped, and all clauses that are false, in every order.
func TestAllOfFourEntries(t *testing.T) {
	count := 0
	for _, names := range [][]int{list(3, -2, 4, -1), list(-1, 4, 2, 3)} {
		grown(nil, names, func(trail []api.Entry) {
			count++
			for _, clause := range orders(against(trail)) {
				holds(t, trail, clause)
			}
			for _, x := range trail {
				holds(t, trail, list(-names[0], x.Lit))
			}
		})
	}
	if count < 1000 {
		t.Errorf("only %d trails", count)
	}
}

// P15.2 to P15.4: lists in which literals stand twice.
func TestAllOfThreeEntries(t *testing.T) {
	grown(nil, list(-2, 3, 1), func(trail []api.Entry) {
		for _, clause := range lists(4, against(trail)) {
			holds(t, trail, clause)
		}
	})
}
