package forward_test

import (
	"slices"
	"testing"

	"depot/api"
	"depot/forward"
	"depot/rup"
)

// The names stand for the numbers that the chapter gives them.
func TestNames(t *testing.T) {
	if forward.Missing != 0 || forward.Gone != 1 || forward.Kept != 2 {
		t.Errorf("Missing %d, Gone %d, Kept %d", forward.Missing, forward.Gone, forward.Kept)
	}
}

// P11.1: a formula that isn't well shaped is refused.
func TestNewRefuses(t *testing.T) {
	for _, f := range misshaped() {
		if w, e := forward.New(f); w != nil || e != api.ErrShape {
			t.Errorf("New(%v): %v, error %d", f, w, e)
		}
	}
}

// P11.1: of each other one there is a Forward with its clauses, that isn't done, whatever it is.
func TestNew(t *testing.T) {
	for _, f := range []api.Formula{
		form(0), form(3), form(api.MaxVar), form(0, c()), form(2, c(), c()), form(1, c(1), c(-1)), form(1, c(-1), c(), c(1), c(1)),
		form(2, c(2, 1), c(1, 2, 1), c(1, -1)), form(9, c(1, 2), c(-1, 2), c(1, -2), c(-1, -2)), form(api.MaxVar, c(-api.MaxVar), c(api.MaxVar, 1)),
	} {
		w, p := pairOf(t, f)
		holds(t, w, p)
		done(t, w, false)
	}
	has(t, made(t, form(0)))
	knows(t, made(t, form(0)))
	has(t, made(t, form(0, c())), c())
	clashes(t, made(t, form(0, c())))
}

// P11.2: what isn't sound is refused, and nothing has happened; so it is when it is done, where all else is ErrTurn.
func TestUnsound(t *testing.T) {
	for _, f := range []api.Formula{form(0), form(0, c()), over(c(1, 2), c(-1)), over(c(1), c(-1))} {
		w, p := pairOf(t, f)
		for _, l := range far {
			for _, clause := range [][]int{c(l), c(1, l), c(l, -1), c(1, -1, l), c(l, l), c(1, 2, l)} {
				refuses(t, w, clause, api.ErrShape)
				holds(t, w, p)
			}
		}
	}
	w := made(t, over(c(1), c(-1)))
	adds(t, w, c(), rup.Rup)
	for _, l := range far {
		refuses(t, w, c(l), api.ErrShape)
		refuses(t, w, c(1, l), api.ErrShape)
	}
	refuses(t, w, c(1), api.ErrTurn)
}

// P11.2: a clause that follows is Rup and is there once more, by however long a way it does.
func TestAddRup(t *testing.T) {
	w := made(t, over(c(-1, 2), c(-2, 3), c(-3, 4), c(-4, 5, 6), c(-5, 7), c(-6, 7)))
	adds(t, w, c(-1, 4), rup.Rup)
	adds(t, w, c(7, -1), rup.Rup)
	adds(t, w, c(-1, 4), rup.Rup)
	adds(t, w, c(4, -1, 4), rup.Rup)
	adds(t, w, c(9, -9), rup.Rup)
	adds(t, w, c(-2, 3, 1), rup.Rup)
	has(t, w, c(1, -2, 3), c(-1, 2), c(-1, 4), c(-1, 4), c(-1, 4), c(-1, 7), c(-2, 3), c(-3, 4), c(-4, 5, 6), c(-5, 7), c(-6, 7), c(9, -9))
	knows(t, w)
	done(t, w, false)
}

// P11.2: a clause that doesn't follow and is safe is Rat, by its first literal, and is there once more; what it says counts from then on.
func TestAddRat(t *testing.T) {
	w := made(t, over(c(-1, 2)))
	adds(t, w, c(1, -2), rup.Rat)
	has(t, w, c(1, -2), c(-1, 2))
	adds(t, w, c(3, 1), rup.Rat)
	adds(t, w, c(2, 3), rup.Rup)
	adds(t, w, c(-3, -1), rup.Rat)
	adds(t, w, c(-2, -3), rup.Rup)
	adds(t, w, c(1), rup.None)

	// The first literal alone says on what it is safe, and a drop can make it so.
	w = made(t, over(c(-2, 1), c(2, -1), c(-3, 5, 6)))
	adds(t, w, c(2, 4), rup.None)
	adds(t, w, c(4, 2), rup.Rat)
	adds(t, w, c(3, -1), rup.None)
	drops(t, w, c(6, 5, -3), forward.Gone)
	adds(t, w, c(3, -1), rup.Rat)

	// A partner counts, though a unit makes it true.
	w = made(t, over(c(-1), c(-1, 2)))
	adds(t, w, c(1, 3), rup.None)
	adds(t, w, c(3, 1), rup.Rat)
	knows(t, w, -1, 3)
}

// P11.2: what is None changes nothing, and is looked at anew when it is asked again.
func TestAddNone(t *testing.T) {
	w, p := pairOf(t, over(c(1, 2), c(-1, -2), c(2, 3), c(-2, -3), c(1, -3), c(-1, 3)))
	for range 3 {
		for _, clause := range [][]int{nil, c(1), c(-1), c(2), c(-2), c(3), c(-3, -1), c(3, 1), c(1, -2), c(-2, 1), c(-1, 2, 2), c(1, 9), c(-3, -9, -8)} {
			if kind, _ := both(t, w, p, add(clause...)); kind != rup.None {
				t.Errorf("%v is %d", clause, kind)
			}
			drops(t, w, clause, forward.Missing)
		}
	}
	adds(t, w, c(2, 3, 1), rup.Rup)
	adds(t, w, c(1), rup.None)
	drops(t, w, c(1, 2, 3), forward.Gone)
}

// P11.2: the empty clause is None, where the units are no clash; with Rup it is there, and it is done. Done is it then alone.
func TestAddEmpty(t *testing.T) {
	for _, clause := range [][]int{nil, c(), make([]int, 0, 4)} {
		w := made(t, over(c(1, 2), c(-1, 2), c(1, -2), c(-1, -2)))
		adds(t, w, clause, rup.None)
		done(t, w, false)
		has(t, w, c(1, 2), c(1, -2), c(-1, 2), c(-1, -2))
		adds(t, w, c(2), rup.Rup)
		clashes(t, w)
		done(t, w, false)
		adds(t, w, c(2, 1), rup.Rup)
		adds(t, w, c(-9), rup.Rup)
		done(t, w, false)
		adds(t, w, clause, rup.Rup)
		done(t, w, true)
		has(t, w, c(), c(1, 2), c(1, 2), c(1, -2), c(-1, 2), c(-1, -2), c(2), c(-9))
		clashes(t, w)
	}
	w := made(t, form(0, c()))
	adds(t, w, c(1), rup.Rup)
	done(t, w, false)
	adds(t, w, c(), rup.Rup)
	done(t, w, true)
	has(t, w, c(), c(), c(1))
	adds(t, made(t, form(0)), c(), rup.None)
}

// P11.2, P11.3: behind the end every clause that is sound is ErrTurn, and all questions are answered as at the end.
func TestBehindDone(t *testing.T) {
	w, p := pairOf(t, over(c(1), c(-1, 2), c(-2), c(3, 4)))
	both(t, w, p, add())
	done(t, w, true)
	for range 2 {
		for _, clause := range [][]int{nil, c(), c(1), c(-1, 2), c(2, -1), c(3, 4), c(9), c(5, -5), c(api.MaxVar)} {
			refuses(t, w, clause, api.ErrTurn)
			holds(t, w, p)
		}
	}
}

// P11.2: a clause's variables may lie above the formula's, up to MaxVar.
func TestAboveVars(t *testing.T) {
	for _, v := range []int{3, 4, 500, api.MaxVar} {
		for _, l := range c(v, -v) {
			w := made(t, form(2, c(1, 2), c(-1, 2)))
			adds(t, w, c(-2, l), rup.None)
			adds(t, w, c(2, l), rup.Rup)
			adds(t, w, c(l, -2), rup.Rat)
			adds(t, w, c(-l, -2), rup.None)
			adds(t, w, c(-l, 2), rup.Rup)
			adds(t, w, c(l, -l), rup.Rup)
			has(t, w, c(1, 2), c(-1, 2), c(2, v), c(2, -v), c(-2, l), c(v, -v))
			drops(t, w, c(-2, l), forward.Gone)
			drops(t, w, c(-l, l, l), forward.Gone)
			adds(t, w, c(-l, -2), rup.Rat)
			drops(t, w, c(l), forward.Missing)
		}
		w := made(t, form(0))
		adds(t, w, c(v), rup.Rat)
		knows(t, w, v)
		adds(t, w, c(-v), rup.None)
		adds(t, w, c(v, 1), rup.Rup)
		has(t, w, c(1, v), c(v))
	}
}

// P11.3: a clause that isn't there is Missing, and nothing changes.
func TestDropMissing(t *testing.T) {
	w, p := pairOf(t, over(c(1, 2), c(2, 3, -4), c(-5)))
	for _, clause := range [][]int{nil, c(1), c(2), c(-1, -2), c(1, 2, 3), c(2, 3), c(2, 3, 4), c(5), c(9), c(-api.MaxVar), c(1, -1)} {
		if what, _ := both(t, w, p, drop(clause...)); what != forward.Missing {
			t.Errorf("Drop(%v) = %d", clause, what)
		}
	}
	// A clash keeps what is there, and what isn't is Missing all the same.
	w = made(t, over(c(1), c(-1), c(2, 3)))
	drops(t, w, c(2), forward.Missing)
	drops(t, w, c(), forward.Missing)
	drops(t, w, c(3, 2), forward.Kept)
	drops(t, made(t, form(0)), c(), forward.Missing)
}

// P11.3: a clause is there as often as it came, in whatever order and however often its literals stood in it, and goes as often.
func TestDropGone(t *testing.T) {
	w := made(t, over(c(1, 2), c(2, 1, 2), c(2, 1), c(3, 4)))
	adds(t, w, c(1, 1, 2), rup.Rup)
	for left := 3; left >= 0; left-- {
		drops(t, w, [][]int{c(2, 1), c(1, 2), c(2, 2, 1), c(1, 2, 1)}[left], forward.Gone)
		if got := len(w.Clauses()); got != left+1 {
			t.Errorf("%d clauses, wanted %d", got, left+1)
		}
	}
	drops(t, w, c(1, 2), forward.Missing)
	has(t, w, c(3, 4))
	adds(t, w, c(2, 1), rup.Rat)
	drops(t, w, c(1, 2), forward.Gone)
	drops(t, w, c(4, 3), forward.Gone)
	has(t, w)
	knows(t, w)
	drops(t, w, c(3, 4), forward.Missing)
}

// P11.3: what is gone says nothing any more; what is there once more still says it.
func TestGoneSaysNothing(t *testing.T) {
	w := made(t, over(c(-1, 2), c(-2, 3), c(-2, 3), c(-3, 4), c(1, 5)))
	adds(t, w, c(-1, 4), rup.Rup)
	drops(t, w, c(-1, 4), forward.Gone)
	drops(t, w, c(3, -2), forward.Gone)
	adds(t, w, c(-1, 4), rup.Rup)
	drops(t, w, c(-1, 4), forward.Gone)
	drops(t, w, c(-2, 3), forward.Gone)
	adds(t, w, c(-1, 4), rup.None)
	adds(t, w, c(3, -2), rup.None)
	adds(t, w, c(-1, 2), rup.Rup)
	adds(t, w, c(-3, 4), rup.Rup)
}

// P11.3: each clause is kept, however often it is there, once the units are a clash.
func TestKeptInAClash(t *testing.T) {
	f := over(c(1, 2), c(1, 2), c(-1, 2), c(-2), c(3, 4), c(5, -5))
	w, p := pairOf(t, f)
	adds(t, w, c(6, 7), rup.Rup)
	p.add(c(6, 7))
	for range 3 {
		for _, clause := range append(slices.Clone(f.Clauses), c(2, 1, 1), c(7, 6)) {
			if what, _ := both(t, w, p, drop(clause...)); what != forward.Kept {
				t.Errorf("Drop(%v) = %d", clause, what)
			}
		}
	}
	w = made(t, form(1, c(), c(1)))
	drops(t, w, c(), forward.Kept)
	drops(t, w, c(1), forward.Kept)
	has(t, w, c(), c(1))
}

// P11.3: a clause with one true literal, all others false, is kept, be it needed for that or not, each time that it is there; with a second true one, or an open one, it goes.
func TestKeptByTheUnits(t *testing.T) {
	w := made(t, over(c(1), c(-2), c(1, 2), c(1, 2), c(2, 1, 3), c(1, -2), c(3, 4, 2), c(2), c(-2))) // [2] and [-2]: a clash
	clashes(t, w)
	w = made(t, over(c(1), c(1), c(-2), c(1, 2), c(1, 2), c(2, 1, 3), c(1, -2), c(3, 4, 2), c(1, -1), c(-2, 2), c(2, -2, 3)))
	knows(t, w, 1, -2)
	for range 3 {
		drops(t, w, c(1), forward.Kept)
		drops(t, w, c(-2, -2), forward.Kept)
		drops(t, w, c(1, 2), forward.Kept)
		drops(t, w, c(2, 1, 2), forward.Kept)
		drops(t, w, c(1, -1), forward.Kept)
		drops(t, w, c(2, -2), forward.Kept)
	}
	drops(t, w, c(1, 3, 2), forward.Gone)
	drops(t, w, c(1, -2), forward.Gone)
	drops(t, w, c(2, 4, 3), forward.Gone)
	drops(t, w, c(2, -2, 3), forward.Gone)
	knows(t, w, 1, -2)
	has(t, w, c(1), c(1), c(1, -1), c(1, 2), c(1, 2), c(2, -2), c(-2))

	// An addition can make a clause one that is kept.
	w = made(t, over(c(1, 2), c(-3, -1), c(-4, 3), c(5, -2), c(6, 5), c(-5, 8), c(-5, -8), c(7, 6, 5)))
	knows(t, w)
	adds(t, w, c(-5), rup.Rup)
	knows(t, w, 1, -2, -3, -4, -5, 6)
	for _, clause := range [][]int{c(1, 2), c(-3, -1), c(-4, 3), c(5, -2), c(6, 5), c(-5)} {
		drops(t, w, clause, forward.Kept)
	}
	for _, clause := range [][]int{c(-5, 8), c(-5, -8), c(5, 6, 7)} {
		drops(t, w, clause, forward.Gone)
	}
}

// P11.4: the clauses stand in the order of their literals by Index, a beginning ahead of what it begins; by numbers of one, two and three bytes too.
func TestClausesInOrder(t *testing.T) {
	want := [][]int{
		c(), c(), c(1), c(1), c(1, -1), c(1, 2), c(1, 2, 3), c(1, 2, -api.MaxVar), c(1, -2), c(1, 3), c(1, 128), c(1, -128), c(1, 129), c(-1), c(-1, 2), c(-1, -2),
		c(2), c(2, -2, 3), c(2, 3), c(-2), c(-2, 300), c(64), c(127), c(-127), c(128), c(-128), c(129), c(-129), c(255), c(256), c(257), c(-257), c(32768), c(-32768), c(32769), c(65536), c(-65537), c(api.MaxVar - 1), c(api.MaxVar), c(-api.MaxVar),
	}
	draw := drawn(1)
	for range 20 {
		f := form(api.MaxVar)
		for _, clause := range want {
			f.Clauses = append(f.Clauses, draw.shuffled(clause, true))
		}
		for k := range f.Clauses {
			j := draw.Intn(k + 1)
			f.Clauses[k], f.Clauses[j] = f.Clauses[j], f.Clauses[k]
		}
		has(t, made(t, f), want...)
	}
}

// P11.4: Clauses and Units behind additions and drops; the closure stands by Index, in whatever order it was found.
func TestUnitsGrow(t *testing.T) {
	w := made(t, over(c(-5, 4), c(-4, -3), c(3, 2), c(-2, -1, 6), c(5, 7), c(-7, 5), c(-6, 8), c(-8, -6)))
	knows(t, w)
	adds(t, w, c(5), rup.Rup)
	knows(t, w, 2, -3, 4, 5)
	adds(t, w, c(-6), rup.Rup)
	knows(t, w, -1, 2, -3, 4, 5, -6)
	adds(t, w, c(1, -6), rup.Rup)
	adds(t, w, c(1, 8), rup.None)
	adds(t, w, c(9, 1), rup.Rat)
	knows(t, w, -1, 2, -3, 4, 5, -6, 9)
	drops(t, w, c(-6, 1), forward.Kept)
	adds(t, w, c(4, -6), rup.Rup)
	drops(t, w, c(-6, 4), forward.Gone)
	drops(t, w, c(-7, 5), forward.Gone)
	knows(t, w, -1, 2, -3, 4, 5, -6, 9)
	has(t, w, c(1, -6), c(1, 9), c(-1, -2, 6), c(2, 3), c(-3, -4), c(4, -5), c(5), c(5, 7), c(-6), c(-6, 8), c(-6, -8))
}

// pool: clauses of three variables for all short rows of steps.
func pool() [][]int {
	return [][]int{c(), c(1), c(-1), c(2), c(-2, -2), c(1, 2), c(-1, 2), c(2, 1, 2), c(1, -2), c(-2, -1), c(1, -1), c(3, -1), c(-3, 2, 1), c(-3)}
}

// formulas: all of at most so many clauses of the pool.
func formulas(most int) []api.Formula {
	out := []api.Formula{form(3)}
	for from := 0; most > 0; most-- {
		to := len(out)
		for _, f := range out[from:to] {
			for _, clause := range pool() {
				out = append(out, form(3, append(slices.Clone(f.Clauses), clause)...))
			}
		}
		from = to
	}
	return out
}

// rows shows all rows of so many steps with clauses of the pool.
func rows(n int, show func(row []api.Step)) {
	var longer func(row []api.Step)
	longer = func(row []api.Step) {
		if len(row) == n {
			show(row)
			return
		}
		for _, clause := range pool() {
			longer(append(slices.Clone(row), add(clause...)))
			longer(append(slices.Clone(row), drop(clause...)))
		}
	}
	longer(nil)
}

// P11.1 to P11.4: all short formulas and rows of steps are answered as by the chapter's words.
func TestAllShort(t *testing.T) {
	for most, length := range map[int]int{2: 1, 1: 2, 0: 3} {
		for _, f := range formulas(most) {
			rows(length, func(row []api.Step) {
				w, p := pairOf(t, f)
				for _, step := range row {
					both(t, w, p, step)
				}
			})
		}
	}
}

// P11.1 to P11.4: so are drawn ones that are longer, with steps that are refused among them.
func TestDrawn(t *testing.T) {
	kinds, fates, ends := [3]int{}, [3]int{}, 0
	for seed := range uint64(700) {
		draw := drawn(seed + 1000)
		vars := 3 + draw.Intn(9)
		most := 1 + draw.Intn(3*vars)
		if seed%4 == 0 {
			most = 6 * vars // often there is no model then
		}
		w, p := pairOf(t, draw.formula(vars, most))
		for range 80 {
			step := draw.step(vars, p.clauses)
			switch what, e := both(t, w, p, step); {
			case e != api.OK:
			case step.Drop:
				fates[what]++
			default:
				kinds[what]++
			}
		}
		if w.Done() {
			ends++
		}
	}
	if slices.Min(kinds[:]) < 1000 || slices.Min(fates[:]) < 1000 || ends < 50 {
		t.Errorf("only %v additions by kind, %v drops, %d ends", kinds, fates, ends)
	}
}
