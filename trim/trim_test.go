package trim_test

import (
	"slices"
	"testing"

	"depot/api"
	"depot/trim"
)

// all: a formula of two variables that no model satisfies.
func all() api.Formula {
	return over(c(1, 2), c(-1, 2), c(1, -2), c(-1, -2))
}

// alike: are both lists the same, step by step?
func alike(a, b []api.Step) bool {
	return slices.EqualFunc(a, b, func(a, b api.Step) bool { return a.Drop == b.Drop && slices.Equal(a.Lits, b.Lits) })
}

// gives: Trim answers that core and that proof, where there is but one answer.
func gives(t *testing.T, f api.Formula, steps []api.Step, core []int, proof ...api.Step) {
	t.Helper()
	if gotCore, gotProof := trims(t, f, steps); !slices.Equal(gotCore, core) || !alike(gotProof, proof) {
		t.Errorf("Trim(%s, %s) = %s, %s, wanted %s, %s", cut(f), cut(steps), cut(gotCore), cut(gotProof), cut(core), cut(proof))
	}
}

// refuses: Trim answers an error, and nothing else.
func refuses(t *testing.T, f api.Formula, want api.Errno, steps ...api.Step) {
	t.Helper()
	if core, proof, e := trim.Trim(f, steps); e != want || len(core) > 0 || len(proof) > 0 {
		t.Errorf("Trim(%s, %s) = %s, %s, error %d, wanted error %d", cut(f), cut(steps), cut(core), cut(proof), e, want)
	}
	trims(t, f, steps)
}

// P12.1: a formula that isn't well shaped is refused, whatever the steps are.
func TestFormulaNotWellShaped(t *testing.T) {
	for _, f := range misshaped() {
		for _, steps := range [][]api.Step{nil, row(add()), row(add(0)), row(drop(1)), row(add(1), add())} {
			refuses(t, f, api.ErrShape, steps...)
		}
	}
}

// P12.1: a step whose literals aren't sound is refused, wherever it stands, also with Drop, also behind the empty clause; ahead of all other reasons.
func TestStepNotSound(t *testing.T) {
	for _, l := range far {
		for _, bad := range []api.Step{add(l), drop(l), add(1, l), drop(1, 2, l, 1), add(1, l, -1)} {
			refuses(t, over(c(1), c(-1)), api.ErrShape, bad, add())
			refuses(t, over(c(1), c(-1)), api.ErrShape, add(), bad)
			refuses(t, over(c(1), c(-1)), api.ErrShape, add(), add(2), drop(2), bad, add())
			refuses(t, all(), api.ErrShape, add(2), bad, add())
			refuses(t, all(), api.ErrShape, bad)
			refuses(t, all(), api.ErrShape, add(), bad)
			refuses(t, form(0), api.ErrShape, add(), bad)
			refuses(t, form(0, c()), api.ErrShape, bad, add())
		}
	}
}

// P12.1: steps without an empty clause that is added are refused, none at all among them.
func TestNoEmptyClause(t *testing.T) {
	for _, f := range []api.Formula{form(0), form(0, c()), over(c(1), c(-1)), all(), form(api.MaxVar)} {
		refuses(t, f, api.ErrRefused)
		refuses(t, f, api.ErrRefused, drop())
		refuses(t, f, api.ErrRefused, drop(1), drop(), drop(-1))
	}
	refuses(t, form(0, c()), api.ErrRefused, add(1), add(-1))
	refuses(t, over(c(1), c(-1)), api.ErrRefused, add(1))
	refuses(t, all(), api.ErrRefused, add(2), add(1), drop())
}

// P12.1: an addition that doesn't follow is refused, also if nobody needs it, and also if it is safe.
func TestDoesNotFollow(t *testing.T) {
	refuses(t, over(c(1, 2)), api.ErrRefused, add(1), add())
	refuses(t, all(), api.ErrRefused, add())
	refuses(t, all(), api.ErrRefused, add(3), add(2), add())
	refuses(t, all(), api.ErrRefused, add(3, 4), add(2), add())
	refuses(t, all(), api.ErrRefused, add(1, 2, 3), add(1, 3), add(-3), add(2), add())
	refuses(t, form(0), api.ErrRefused, add())
	refuses(t, form(0), api.ErrRefused, add(api.MaxVar), add(-api.MaxVar), add())
	refuses(t, form(0), api.ErrRefused, add(1, -1), add())
	refuses(t, over(c(1)), api.ErrRefused, add(1), add(1), add())
	refuses(t, over(c(1), c(-1, 2)), api.ErrRefused, add(2), add(-2), add())
	// The empty clause ends the additions, be there a better one behind it.
	refuses(t, all(), api.ErrRefused, add(), add(2), add())
}

// P12.1: what is added doesn't serve what stands ahead of it.
func TestOrderOfAdditions(t *testing.T) {
	f := over(c(1, 2, 3), c(1, 2, -3), c(1, -2, 3), c(1, -2, -3), c(-1, 4), c(-1, -4))
	gives(t, f, row(add(1, 2), add(1), add()), c(0, 1, 2, 3, 4, 5), add(1, 2), add(1), add())
	refuses(t, f, api.ErrRefused, add(1), add(1, 2), add())
	refuses(t, f, api.ErrRefused, add(), add(1, 2), add(1))
}

// P12.1: a proof of which everything is needed stays as it is, its numbers in their order.
func TestAllIsNeeded(t *testing.T) {
	gives(t, over(c(1), c(-1)), row(add()), c(0, 1), add())
	gives(t, all(), row(add(1), add()), c(0, 1, 2, 3), add(1), add())
	gives(t, all(), row(add(-2), add()), c(0, 1, 2, 3), add(-2), add())
	f := over(c(1, 2, 3), c(1, 2, -3), c(1, -2, 3), c(1, -2, -3), c(-1, 2, 3), c(-1, 2, -3), c(-1, -2, 3), c(-1, -2, -3))
	gives(t, f, row(add(2, 1), add(1), add(2, -1), add()), c(0, 1, 2, 3, 4, 5, 6, 7), add(2, 1), add(1), add(2, -1), add())
	gives(t, f, row(add(2, 1, 2), add(1, 1), add(-1, 2), add()), c(0, 1, 2, 3, 4, 5, 6, 7), add(2, 1, 2), add(1, 1), add(-1, 2), add())
}

// P12.1: clauses that nobody needs are left out, wherever they stand, and the numbers of the others are the formula's.
func TestNeedlessClauses(t *testing.T) {
	gives(t, over(c(1), c(2, 3), c(-1)), row(add()), c(0, 2), add())
	gives(t, over(c(5), c(-5, 6), c(1), c(2, 3), c(-1), c(7, -7), c(-6, 2)), row(add()), c(2, 4), add())
	gives(t, over(c(3, 4), c(1, 2), c(-3, 4), c(1, -2), c(5), c(-1, 2), c(-1, -2), c(6)), row(add(1), add()), c(1, 3, 5, 6), add(1), add())
	// What is true already by a clause that stays out of the way says nothing of who is needed.
	gives(t, over(c(1), c(-1, 2), c(-2, 3), c(-3, 4), c(5), c(-5)), row(add(4), add(3), add()), c(4, 5), add())
}

// P12.1: additions that nobody needs are left out: such as say nothing, such as stand there already, such as can be done without.
func TestNeedlessAdditions(t *testing.T) {
	gives(t, all(), row(add(1), add(5, -5), add()), c(0, 1, 2, 3), add(1), add())
	gives(t, all(), row(add(9, -9), add(api.MaxVar, -api.MaxVar, 1), add(1, 2), add(2, 1), add(1, 2, 7), add(1), add(1), add(2), add()), c(0, 1, 2, 3), add(1), add())
	gives(t, over(c(1, 2), c(-1, 2), c(-2)), row(add(2), add()), c(0, 1, 2), add())
	gives(t, over(c(1), c(-1)), row(add(1), add(-1), add(2), add(-2), add(3, 4), add()), c(0, 1), add())
	gives(t, over(c(1), c(-1, 2), c(-2, 3), c(-3)), row(add(2), add(3), add(-1, 3), add()), c(0, 1, 2, 3), add())
}

// P12.1: of additions of which one is enough one stays, and those by which only the other one followed go with it.
func TestOneOfTwo(t *testing.T) {
	core, proof := trims(t, all(), row(add(1), add(2), add()))
	if len(core) != 4 || len(proof) != 2 {
		t.Errorf("core %v, proof %v", core, proof)
	}
	f := over(c(1, 2), c(1, -2), c(-1, 3), c(-1, -3), c(4, 5), c(4, -5), c(-4, 6), c(-4, -6))
	core, proof = trims(t, f, row(add(1), add(4), add()))
	if len(core) != 4 || len(proof) != 2 {
		t.Errorf("core %v, proof %v", core, proof)
	}
	// 4 follows by 1 alone, which nobody else needs.
	f = over(c(1, 2), c(1, -2), c(-1, 4), c(3), c(-3))
	gives(t, f, row(add(1), add(4), add(1, 4), add()), c(3, 4), add())
}

// P12.1: of clauses that are there twice, as they are or with their literals otherwise, one is enough.
func TestClausesTwice(t *testing.T) {
	for _, f := range []api.Formula{over(c(1), c(1), c(-1)), over(c(1), c(1, 1), c(-1)), over(c(1, 1), c(1, 1, 1), c(-1, -1))} {
		core, proof := trims(t, f, row(add()))
		if !slices.Equal(core, c(0, 2)) && !slices.Equal(core, c(1, 2)) || len(proof) != 1 {
			t.Errorf("of %v: core %v, proof %v", f, core, proof)
		}
	}
	f := over(c(1, 2), c(2, 1), c(-1, 2), c(1, -2), c(-2, 1, -2), c(-1, -2), c(-1, -2))
	core, proof := trims(t, f, row(add(2), add()))
	if len(core) != 4 || len(proof) != 2 {
		t.Errorf("of %v: core %v, proof %v", f, core, proof)
	}
	core, proof = trims(t, f, row(add(2), add(2, 2), add(2), add()))
	if len(core) != 4 || len(proof) != 2 {
		t.Errorf("of %v: core %v, proof %v", f, core, proof)
	}
}

// P12.1: an empty clause in the formula is enough by itself, unless there is another way.
func TestEmptyClauseInFormula(t *testing.T) {
	gives(t, form(0, c()), row(add()), c(0), add())
	gives(t, form(3, c(2, 3), c(), c(1)), row(add()), c(1), add())
	gives(t, form(3, c(2, 3), c(), c(1)), row(add(1), add(-1), add(7), drop(), add()), c(1), add())
	core, _ := trims(t, form(3, c(), c(2, 3), c(), c(1), c()), row(add()))
	if len(core) != 1 {
		t.Errorf("core %v", core)
	}
	core, _ = trims(t, form(3, c(1), c(-1), c()), row(add()))
	if !slices.Equal(core, c(0, 1)) && !slices.Equal(core, c(2)) {
		t.Errorf("core %v", core)
	}
}

// P12.1: steps with Drop count for nothing: neither is what they name gone, nor need it be there, nor do they end the proof.
func TestDropsCountForNothing(t *testing.T) {
	gives(t, over(c(1, 2), c(-1, 2), c(-2)), row(drop(2), add(2), add()), c(0, 1, 2), add())
	gives(t, all(), row(drop(1, 2), drop(), drop(9), add(1), drop(1), drop(-1, 2), drop(8, -8), add(), drop()), c(0, 1, 2, 3), add(1), add())
	gives(t, over(c(1), c(-1)), row(drop(1), drop(-1), drop(), add()), c(0, 1), add())
	refuses(t, over(c(1)), api.ErrRefused, drop(-1), add())
}

// P12.1: what stands behind the first empty clause counts for nothing, be it another one, or what doesn't follow.
func TestBehindTheEmptyClause(t *testing.T) {
	gives(t, over(c(1), c(-1)), row(add(), add(7), drop(9)), c(0, 1), add())
	gives(t, over(c(1), c(-1)), row(add(), add(), add(1), add()), c(0, 1), add())
	gives(t, all(), row(add(1), add(), add(2), add(5), add(-5, 9), add(), drop()), c(0, 1, 2, 3), add(1), add())
}

// P12.1: additions may have variables above the formula's, up to the greatest.
func TestVariablesAbove(t *testing.T) {
	const top = api.MaxVar
	gives(t, all(), row(add(1, top), add(1, 3), add(1, top, -top), add(2), add()), c(0, 1, 2, 3), add(2), add())
	gives(t, form(top, c(top), c(-top)), row(add()), c(0, 1), add())
	gives(t, form(top, c(top, 1), c(top, -1), c(3), c(-top, 1), c(-top, -1)), row(add(-top), add()), c(0, 1, 3, 4), add(-top), add())
	refuses(t, all(), api.ErrRefused, add(top), add(2), add())
}

// P12.1: clauses in which a literal stands beside its opposite, or twice, are what they say as sets.
func TestOddClauses(t *testing.T) {
	gives(t, over(c(1, -1), c(1, 1), c(2, -2, 1), c(-1, -1, -1), c(-1, 1)), row(add()), c(1, 3), add())
	gives(t, over(c(1, 1, 2), c(2, -1, 2), c(-2, 1, 1, -2), c(-1, -2, -1)), row(add(2, 2), add()), c(0, 1, 2, 3), add(2, 2), add())
	refuses(t, over(c(1, -1), c(2, -2)), api.ErrRefused, add())
	refuses(t, over(c(1, -1)), api.ErrRefused, add(1), add())
}

// pool: clauses of which all short formulas and rows of steps are made.
func pool() [][]int {
	return [][]int{c(), c(1), c(-1), c(2), c(1, 2), c(-1, 2), c(1, -2), c(-2, -1), c(1, -1), c(2, 1, 2), c(-2)}
}

// P12.1: all short formulas and rows of steps are trimmed as the chapter says.
func TestAllShort(t *testing.T) {
	good, some := 0, 0
	var longer func(f api.Formula, more int, show func(f api.Formula))
	longer = func(f api.Formula, more int, show func(f api.Formula)) {
		show(f)
		if more == 0 {
			return
		}
		for _, clause := range pool() {
			longer(form(2, append(slices.Clone(f.Clauses), clause)...), more-1, show)
		}
	}
	longer(form(2), 4, func(f api.Formula) {
		some++
		for _, steps := range [][]api.Step{row(add()), row(add(1), add()), row(add(2), add()), row(add(1, 2), add(-1), drop(), add())} {
			if core, _ := trims(t, f, steps); len(core) > 0 {
				good++
			}
		}
	})
	longer(form(2), 2, func(f api.Formula) {
		longer(form(2), 2, func(steps api.Formula) {
			var l []api.Step
			for k, clause := range steps.Clauses {
				l = append(l, api.Step{Drop: k == 0 && len(clause) == 1, Lits: clause})
			}
			trims(t, f, l)
			trims(t, f, append(l, add()))
			some++
		})
	})
	if good < 5000 || some < 20000 {
		t.Errorf("only %d formulas, %d good lists", some, good)
	}
}

// P12.1: so are proofs of drawn formulas, plain ones and such as have much that is needless.
func TestDrawn(t *testing.T) {
	fewer, long := 0, 0
	for seed := range uint64(400) {
		draw := drawn(seed + 1000)
		f, steps := draw.drawnProof()
		if seed%2 == 1 {
			f, steps = draw.richProof()
		}
		core, proof := trims(t, f, steps)
		if len(core) == 0 || len(proof) == 0 {
			t.Fatalf("Trim(%v, %v) is refused", f, steps)
		}
		if len(core) < len(f.Clauses) {
			fewer++
		}
		if len(proof) > 5 {
			long++
		}
	}
	if fewer < 200 || long < 100 {
		t.Errorf("only %d with clauses left out, %d with long proofs", fewer, long)
	}
}

// P12.1: and so are proofs of which a step is left out, put in, changed.
func TestSpoilt(t *testing.T) {
	codes := map[api.Errno]int{}
	for seed := range uint64(150) {
		draw := drawn(seed + 3000)
		f, steps := draw.drawnProof()
		if seed%2 == 1 {
			f, steps = draw.richProof()
		}
		for range 10 {
			spoilt := draw.spoilt(f, steps)
			trims(t, f, spoilt)
			codes[refusal(f, spoilt)]++
		}
	}
	if codes[api.OK] < 200 || codes[api.ErrShape] < 100 || codes[api.ErrRefused] < 100 {
		t.Errorf("only so many by their errors: %v", codes)
	}
}
