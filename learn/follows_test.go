package learn_test

import (
	"slices"
	"testing"

	"depot/api"
	"depot/learn"
	"depot/rup"
)

// each shows trails that are well shaped, and clauses that are false under them: all short ones, and drawn ones that are longer.
func each(show func(trail []api.Entry, conflict []int)) {
	grown(nil, list(3, -2, 4, -1), func(trail []api.Entry) {
		for _, conflict := range lists(2, against(trail)) {
			show(trail, conflict)
		}
		show(trail, against(trail))
	})
	for seed := range uint64(3000) {
		draw := drawn(seed + 200000)
		trail := draw.trail(1 + draw.Intn(20))
		show(trail, draw.some(against(trail), 1+draw.Intn(9)))
	}
}

// learnt: what Learn answers, where it answers a clause that isn't empty.
func learnt(t *testing.T, show func(trail []api.Entry, conflict, clause []int, back int)) {
	t.Helper()
	count := 0
	each(func(trail []api.Entry, conflict []int) {
		clause, back, e := learn.Learn(trail, conflict)
		if e != api.OK {
			t.Fatalf("Learn(%v, %v): error %d", trail, conflict, e)
		}
		if back >= 0 {
			count++
			show(trail, conflict, clause, back)
		}
	})
	if count < 2000 {
		t.Errorf("only %d", count)
	}
}

// formulaOf: P15.5's F.
func formulaOf(trail []api.Entry, conflict []int) api.Formula {
	f := api.Formula{Clauses: [][]int{conflict}}
	for _, x := range trail {
		f.Vars = max(f.Vars, x.Lit, -x.Lit)
		if len(x.Reason) > 0 {
			f.Clauses = append(f.Clauses, x.Reason)
		}
		if x.Level == 0 {
			f.Clauses = append(f.Clauses, list(x.Lit))
		}
	}
	return f
}

func follows(t *testing.T, trail []api.Entry, conflict, clause []int) {
	t.Helper()
	if yes, e := rup.Follows(formulaOf(trail, conflict), clause); e != api.OK || !yes {
		t.Fatalf("of %v and %v: %v doesn't follow, error %d", trail, conflict, clause, e)
	}
}

// P15.5: what Learn answers follows by unit clauses, the empty clause too.
func TestLearntFollows(t *testing.T) {
	empty := 0
	each(func(trail []api.Entry, conflict []int) {
		clause, _, _ := learn.Learn(trail, conflict)
		follows(t, trail, conflict, clause)
		if len(clause) == 0 {
			empty++
		}
	})
	if empty < 100 {
		t.Errorf("only %d are empty", empty)
	}
}

// P15.5: so does what Shrink makes of it.
func TestShrunkFollows(t *testing.T) {
	shorter := 0
	each(func(trail []api.Entry, conflict []int) {
		clause, _, _ := learn.Learn(trail, conflict)
		short, e := learn.Shrink(trail, clause)
		if e != api.OK {
			t.Fatalf("Shrink(%v, %v): error %d", trail, clause, e)
		}
		follows(t, trail, conflict, short)
		if len(short) < len(clause) {
			shorter++
		}
	})
	if shorter < 300 {
		t.Errorf("only %d are shorter", shorter)
	}
}

// P15.5: the clause is false under the trail, none of its literals is of level 0, and just one of level L.
func TestLearntUnderTheTrail(t *testing.T) {
	learnt(t, func(trail []api.Entry, conflict, clause []int, _ int) {
		top, many := 0, 0
		for _, x := range conflict {
			top = max(top, levelOf(trail, x))
		}
		if !isFalse(trail, clause) {
			t.Fatalf("%v isn't false under %v", clause, trail)
		}
		for _, x := range clause {
			switch levelOf(trail, x) {
			case 0:
				t.Errorf("%d of %v is of level 0 of %v", x, clause, trail)
			case top:
				many++
			}
		}
		if many != 1 || levelOf(trail, clause[0]) != top {
			t.Errorf("%v has %d of level %d of %v", clause, many, top, trail)
		}
	})
}

// P15.5: with the levels above back left out all literals but the first are false, and the first one's variable has no entry.
func TestLearntFartherBack(t *testing.T) {
	learnt(t, func(trail []api.Entry, _, clause []int, back int) {
		rest := slices.DeleteFunc(slices.Clone(trail), func(x api.Entry) bool { return x.Level > back })
		if !isFalse(rest, clause[1:]) {
			t.Errorf("behind level %d of %v not all of %v is false", back, trail, clause)
		}
		if placeOf(rest, clause[0]) >= 0 || placeOf(rest, -clause[0]) >= 0 {
			t.Errorf("behind level %d of %v the first of %v has an entry", back, trail, clause)
		}
		// So it may stand there, with the clause as its reason: back is the least level for that.
		if next := at(clause[0], back, clause...); !learn.Formed(append(rest, next)) {
			t.Errorf("%v doesn't fit behind %v", next, rest)
		}
		if len(clause) > 1 && isFalse(slices.DeleteFunc(rest, func(x api.Entry) bool { return x.Level == back }), clause[1:]) {
			t.Errorf("%v is back to level %d, less is enough", clause, back)
		}
	})
}

// shrunk: what Shrink makes of clauses, those that Learn answers and others.
func shrunk(t *testing.T, show func(trail []api.Entry, clause, short []int)) {
	t.Helper()
	each(func(trail []api.Entry, conflict []int) {
		clause, _, _ := learn.Learn(trail, conflict)
		for _, c := range [][]int{clause, conflict} {
			short, e := learn.Shrink(trail, c)
			if e != api.OK {
				t.Fatalf("Shrink(%v, %v): error %d", trail, c, e)
			}
			show(trail, c, short)
		}
	})
}

// P15.5: Shrink's answer is part of the clause, with the same first literal.
func TestShrunkIsPart(t *testing.T) {
	shrunk(t, func(trail []api.Entry, clause, short []int) {
		if len(clause) == 0 {
			if len(short) > 0 {
				t.Errorf("of the empty clause %v", short)
			}
			return
		}
		if len(short) == 0 || short[0] != clause[0] {
			t.Fatalf("%v begins otherwise than %v", short, clause)
		}
		for _, x := range short {
			if !slices.Contains(clause, x) {
				t.Errorf("%d of %v stands not in %v", x, short, clause)
			}
		}
	})
}

// P15.5: Shrink of Shrink's answer is that answer.
func TestShrunkTwice(t *testing.T) {
	shrunk(t, func(trail []api.Entry, clause, short []int) {
		if again, e := learn.Shrink(trail, short); e != api.OK || !slices.Equal(again, short) {
			t.Errorf("of %v first %v, then %v, error %d", clause, short, again, e)
		}
	})
}

// P15.3 of P15.5's clauses: what Shrink leaves out of them was implied by the rest, and level 0 is in it nowhere.
func TestShrunkLevels(t *testing.T) {
	learnt(t, func(trail []api.Entry, _, clause []int, _ int) {
		short, _ := learn.Shrink(trail, clause)
		before, _ := learn.Levels(trail, clause)
		after, e := learn.Levels(trail, short)
		if e != api.OK || after > before || after < 1 {
			t.Errorf("%v has %d levels, %v has %d, error %d", clause, before, short, after, e)
		}
	})
}
