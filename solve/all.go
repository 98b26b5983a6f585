package solve

import (
	"slices"

	"depot/api"
)

// region is a part of a formula's models: those that are like a model that was found on the variables up to from, and aren't like it on all of those up to to. The zero region is all of them.
type region struct {
	found    []bool
	from, to int
}

// all: All, where nothing is to be refused but for want of budget. Of a region in which a model is found at most three regions are left, of one without a model none: so there are at most three searches for each model and one more, and none of them has to know of all models that were found.
func all(f api.Formula, vars, most int, c api.Config) ([][]bool, api.Errno) {
	var out [][]bool
	open := []region{{}}
	for len(open) > 0 && len(out) < most {
		r := open[len(open)-1]
		open = open[:len(open)-1]
		switch o, _ := Solve(r.formula(f), c); o.End {
		case api.Out:
			return nil, api.ErrRoom
		case api.Sat:
			out = append(out, o.Model)
			open = append(open, r.without(o.Model, vars)...)
		}
	}
	return out, api.OK
}

// formula: the formula whose models are those of f in the region.
func (r region) formula(f api.Formula) api.Formula {
	if r.to == 0 {
		return f
	}
	clauses := slices.Clone(f.Clauses)
	var unlike []int
	for k, yes := range r.found[:r.to] {
		l := always(yes).first(k + 1)
		if k < r.from {
			clauses = append(clauses, []int{l})
		} else {
			unlike = append(unlike, -l)
		}
	}
	return api.Formula{Vars: f.Vars, Clauses: append(clauses, unlike)}
}

// without: what is left of the region without those that are like a model of it on all variables up to vars.
func (r region) without(m []bool, vars int) []region {
	// parting is the first variable on which the two models are unlike.
	parting := 0
	if r.to > 0 {
		parting = r.from + 1
		for m[parting-1] == r.found[parting-1] {
			parting++
		}
	}
	// The region's others part from the one that was found ahead of there, behind it, or there.
	var out []region
	for _, part := range []region{{r.found, r.from, parting - 1}, {r.found, parting, r.to}, {m, parting, vars}} {
		if part.from < part.to {
			out = append(out, part)
		}
	}
	return out
}
