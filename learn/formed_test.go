package learn_test

import (
	"math"
	"slices"
	"testing"

	"depot/api"
	"depot/learn"
)

// formed: Formed answers so.
func formed(t *testing.T, want bool, trails ...[]api.Entry) {
	t.Helper()
	for _, trail := range trails {
		if learn.Formed(trail) != want {
			t.Errorf("Formed(%v) is %v", trail, !want)
		}
	}
}

// P15.1: trails that are well shaped.
func TestFormed(t *testing.T) {
	formed(t, true,
		nil,
		[]api.Entry{},
		chain(),
		ahead(),
		[]api.Entry{at(1, 0, 1), at(2, 0)},
		[]api.Entry{at(1, 0), at(2, 0, 2, -1), at(3, 0), at(4, 1), at(5, 2), at(6, 3), at(7, 3, 7, -6, -5, -4, -3, -2, -1)},
		[]api.Entry{at(-api.MaxVar, 1), at(api.MaxVar-1, 1, api.MaxVar, api.MaxVar-1)},
	)
}

// P15.1: the chapter's examples.
func TestFormedExamples(t *testing.T) {
	formed(t, true, chain(), []api.Entry{at(1, 0, 1), at(2, 0)}, nil)
	formed(t, false,
		[]api.Entry{at(1, 1), at(2, 1), at(3, 2), at(4, 2, 4, -3, -2), at(5, 2, 5, -4)},
		[]api.Entry{at(1, 1), at(2, 1, 2, -1), at(3, 2, 3, -1), at(4, 2, 4, -3, -2), at(5, 2, 5, -4)},
		[]api.Entry{at(1, 1), at(2, 1, 2, -1), at(4, 3)},
		[]api.Entry{at(1, 1), at(2, 1, 2, -1), at(3, 2), at(4, 2, 4, -3, -2), at(5, 2, 5, -6)},
	)
}

// P15.1: each part of a trail that is well shaped is so, cut off anywhere.
func TestFormedWhereverItEnds(t *testing.T) {
	for n := range ahead() {
		formed(t, true, ahead()[:n])
	}
}

// P15.1: each Lit is a literal.
func TestFormedLiterals(t *testing.T) {
	for _, x := range noLiterals() {
		formed(t, false,
			[]api.Entry{at(x, 0)},
			[]api.Entry{at(x, 1)},
			[]api.Entry{at(x, 0, x)},
			[]api.Entry{at(1, 1), at(x, 1, x, -1)},
			[]api.Entry{at(1, 1), at(x, 2)},
			append(chain(), at(x, 3)),
		)
	}
	formed(t, true, []api.Entry{at(api.MaxVar, 0)}, []api.Entry{at(-api.MaxVar, 1)}, []api.Entry{at(-1, 1)})
}

// P15.1: the variables are unlike.
func TestFormedVariablesUnlike(t *testing.T) {
	for _, x := range chain() {
		formed(t, false,
			append(chain(), at(x.Lit, 3)),
			append(chain(), at(-x.Lit, 3)),
			append(chain(), at(x.Lit, 2, x.Lit)),
			append(chain(), at(-x.Lit, 2, -x.Lit)),
		)
	}
	formed(t, false, []api.Entry{at(1, 0), at(1, 0)}, []api.Entry{at(1, 0), at(-1, 0)}, []api.Entry{at(1, 0), at(1, 1)}, []api.Entry{at(1, 1), at(-1, 2)})
	formed(t, true, append(chain(), at(-6, 3)))
}

// P15.1: the first Level is 0 or 1.
func TestFormedFirstLevel(t *testing.T) {
	for _, level := range list(-1, -2, 2, 3, 100, math.MaxInt, math.MinInt) {
		formed(t, false, []api.Entry{at(1, level)}, []api.Entry{at(1, level, 1)}, []api.Entry{at(1, level), at(2, 1)})
	}
	formed(t, true, []api.Entry{at(1, 0)}, []api.Entry{at(1, 0, 1)}, []api.Entry{at(1, 1)})
}

// P15.1: each other Level is that of the entry ahead or 1 more.
func TestFormedLevelsRise(t *testing.T) {
	for _, level := range list(-1, 0, 1, 4, 5, 100, math.MaxInt, math.MinInt) {
		formed(t, false, append(chain(), at(6, level)), append(chain(), at(6, level, 6, -5)), append(chain(), at(6, level, 6)))
	}
	formed(t, true, append(chain(), at(6, 3)), append(chain(), at(6, 2, 6, -5)))
	formed(t, false, []api.Entry{at(1, 0), at(2, 2)}, []api.Entry{at(1, 0), at(2, -1)}, []api.Entry{at(1, 1), at(2, 0)}, []api.Entry{at(1, 1), at(2, 0, 2)})
	formed(t, true, []api.Entry{at(1, 0), at(2, 1)}, []api.Entry{at(1, 0), at(2, 0)}, []api.Entry{at(1, 0), at(2, 1), at(3, 2)})
}

// P15.1: the first of a level above 0 has no Reason, each other one has one; on level 0 both may be.
func TestFormedReasonsWhereTheyBelong(t *testing.T) {
	for place, x := range chain() {
		spoilt := chain()
		if len(x.Reason) > 0 {
			spoilt[place].Reason = nil
			formed(t, false, spoilt)
			spoilt[place].Reason = []int{}
		} else {
			spoilt[place].Reason = []int{x.Lit}
		}
		formed(t, false, spoilt)
	}
	formed(t, false, []api.Entry{at(1, 1, 1)}, []api.Entry{at(1, 0), at(2, 1, 2, -1)}, []api.Entry{at(1, 1), at(2, 2, 2, -1)}, []api.Entry{at(1, 1), at(2, 1)}, []api.Entry{at(1, 0), at(2, 1), at(3, 1)})
	formed(t, true, []api.Entry{{Lit: 1, Level: 1, Reason: []int{}}}, []api.Entry{at(1, 0), at(2, 0, 2, -1), at(3, 0), at(4, 0, 4)})
}

// P15.1: a Reason is sound, on level 0 and above.
func TestFormedReasonsSound(t *testing.T) {
	for _, x := range noLiterals() {
		for _, reason := range [][]int{list(3, -2, x), list(x, 3), list(x), list(3, x, -2)} {
			formed(t, false,
				[]api.Entry{at(1, 1), at(2, 1, 2, -1), at(3, 1, reason...)},
				[]api.Entry{at(1, 0), at(2, 0), at(3, 0, reason...)},
			)
		}
	}
}

// P15.1: a Reason holds the entry's Lit.
func TestFormedReasonsHoldTheLiteral(t *testing.T) {
	for _, reason := range [][]int{list(-2), list(-1, -2), list(-1), list(-3), list(-3, -1), list(-1, -1)} {
		formed(t, false,
			[]api.Entry{at(1, 1), at(2, 1, 2, -1), at(3, 1, reason...)},
			[]api.Entry{at(1, 0), at(2, 0), at(3, 0, reason...)},
		)
	}
	// The literal may stand anywhere in it, and twice, and so may the others.
	for _, reason := range [][]int{list(3), list(3, 3), list(-2, 3), list(-2, 3, -1), list(-1, -2, 3), list(3, -1, 3, -1)} {
		formed(t, true,
			[]api.Entry{at(1, 1), at(2, 1, 2, -1), at(3, 1, reason...)},
			[]api.Entry{at(1, 0), at(2, 0), at(3, 0, reason...)},
		)
	}
}

// P15.1: the opposite of each other literal of a Reason stands ahead: not behind, not nowhere, and not the literal itself.
func TestFormedReasonsFalseAhead(t *testing.T) {
	for _, reason := range [][]int{list(2, 1), list(2, -3), list(2, 3), list(2, -4), list(2, -2), list(-2, 2, -1), list(2, -1, -3), list(1, -1, 2), list(-5, 2, -1)} {
		formed(t, false,
			[]api.Entry{at(1, 1), at(2, 1, reason...), at(3, 1, 3, -1), at(4, 2)},
			[]api.Entry{at(1, 0), at(2, 0, reason...), at(3, 0, 3, -1), at(4, 1)},
		)
	}
	formed(t, false, []api.Entry{at(1, 0, 1, -1)}, []api.Entry{at(1, 0, 1, 2)}, []api.Entry{at(1, 0, 1, -2), at(2, 0)})
}

// P15.1: one fault is enough, wherever the trail has it.
func TestFormedOneFault(t *testing.T) {
	for place := range ahead() {
		for _, fault := range []func(x *api.Entry){
			func(x *api.Entry) { x.Lit = 0 },
			func(x *api.Entry) { x.Lit = -x.Lit * api.MaxVar },
			func(x *api.Entry) { x.Level += 2 },
			func(x *api.Entry) { x.Level = -1 },
			func(x *api.Entry) { x.Reason = append(slices.Clone(x.Reason), 0) },
			func(x *api.Entry) { x.Reason = list(x.Lit, 7) },
			func(x *api.Entry) { x.Reason = list(-x.Lit) },
		} {
			trail := ahead()
			fault(&trail[place])
			// MaxVar itself is a literal's number: there the reason lacks it, or it is a decision.
			if lit := trail[place].Lit; lit == api.MaxVar || lit == -api.MaxVar {
				continue
			}
			formed(t, false, trail)
		}
	}
}
