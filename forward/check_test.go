package forward_test

import (
	"slices"
	"testing"

	"depot/api"
	"depot/dimacs"
	"depot/drat"
	"depot/forward"
	"depot/pack"
	"depot/rup"
)

// ends: Check answers that.
func ends(t *testing.T, f api.Formula, code, at int, steps ...api.Step) {
	t.Helper()
	if r, e := forward.Check(f, steps); r != (api.Report{Code: code, At: at}) || e != api.OK {
		t.Errorf("Check(%s, %s) = %v, error %d, wanted %d at %d", cut(f), cut(steps), r, e, code, at)
	}
}

// all: a formula of two variables that no model satisfies.
func all() api.Formula {
	return over(c(1, 2), c(-1, 2), c(1, -2), c(-1, -2))
}

// P11.5: a formula that isn't well shaped is refused, whatever the steps are.
func TestCheckRefuses(t *testing.T) {
	for _, f := range misshaped() {
		for _, steps := range [][]api.Step{nil, {add()}, {add(0)}, {drop(1)}, {add(1), add()}} {
			if r, e := forward.Check(f, steps); r != (api.Report{}) || e != api.ErrShape {
				t.Errorf("Check(%v, %v) = %v, error %d", f, steps, r, e)
			}
		}
	}
}

// P11.5: an empty clause that is added is accepted, at its step, wherever it stands.
func TestAccepted(t *testing.T) {
	ends(t, all(), api.Accepted, 1, add(2), add())
	ends(t, all(), api.Accepted, 1, add(-1), add())
	ends(t, all(), api.Accepted, 4, add(5, 6), add(-2), drop(6, 5), add(7), add())
	ends(t, form(0, c()), api.Accepted, 0, add())
	ends(t, form(0, c()), api.Accepted, 1, drop(), add())
	ends(t, form(1, c(1), c(-1)), api.Accepted, 0, add())
	ends(t, form(1, c(1), c(-1)), api.Accepted, 2, drop(1), drop(-1), add())
	ends(t, form(4, c(1, 2), c(-1, 2), c(-2)), api.Accepted, 0, add())
}

// P11.5: what is kept is there yet in the steps behind; what is gone is not.
func TestDropsInAProof(t *testing.T) {
	f := over(c(1), c(-1, 2), c(-2, 3, 4), c(-2, 3, -4), c(-3, 5, 6), c(-3, 5, -6), c(-5, 7), c(-5, -7))
	ends(t, f, api.Accepted, 8, add(3), drop(3, 4, -2), drop(1), drop(2, -1), drop(3), add(5), drop(-3, 5, 6), drop(5), add())
	ends(t, f, api.Refused, 2, add(3), drop(-3, 5, 6), add(5), add())
	ends(t, f, api.Refused, 1, drop(3, 4, -2), add(3), add(5), add())
	ends(t, f, api.Absent, 2, add(3), drop(3, 4, -2), drop(3, 4, -2), add(5), add())
}

// P11.5: a clause that is neither Rup nor Rat is refused, at its step.
func TestRefused(t *testing.T) {
	ends(t, all(), api.Refused, 0, add())
	ends(t, all(), api.Refused, 2, add(1, 2), add(3), add(-3), add(2), add())
	ends(t, over(c(1)), api.Refused, 1, add(2), add())
	ends(t, form(0), api.Refused, 0, add())
	ends(t, form(0), api.Refused, 1, add(api.MaxVar), add(-api.MaxVar))
	ends(t, all(), api.Refused, 1, drop(1, 2), add(2), add())
}

// P11.5: a drop of what isn't there ends the check, at its step; what is kept doesn't.
func TestAbsent(t *testing.T) {
	ends(t, all(), api.Absent, 0, drop(3))
	ends(t, all(), api.Absent, 0, drop())
	ends(t, all(), api.Absent, 1, drop(2, 1), drop(1, 2), add(0))
	ends(t, all(), api.Absent, 2, add(2), drop(2, 1), drop(2, 1, -1), add())
	ends(t, form(0), api.Absent, 0, drop(), add())
	ends(t, form(1, c(1), c(-1)), api.Absent, 1, drop(1), drop(2), add())
}

// P11.5: a step that holds what is no literal ends the check, be it an addition or a drop.
func TestUnsoundStep(t *testing.T) {
	for _, l := range far {
		ends(t, all(), api.Unsound, 0, add(l))
		ends(t, all(), api.Unsound, 0, drop(l))
		ends(t, all(), api.Unsound, 1, add(2), add(1, l), add())
		ends(t, all(), api.Unsound, 2, add(2), drop(2, 1), drop(1, 2, l), add())
		ends(t, form(0), api.Unsound, 0, add(1, l, -1), add())
		ends(t, form(0, c()), api.Unsound, 0, drop(l), add())
	}
}

// P11.5: if the steps end ahead of all that, it is Short, with their number; so with none at all.
func TestShort(t *testing.T) {
	for _, f := range []api.Formula{form(0), form(0, c()), all(), over(c(1), c(-1)), form(api.MaxVar)} {
		ends(t, f, api.Short, 0)
	}
	ends(t, all(), api.Short, 2, add(1, 2), drop(1, 2))
	ends(t, all(), api.Short, 1, add(2))
	ends(t, form(0, c()), api.Short, 3, add(2), add(-2), drop())
	ends(t, form(0), api.Short, 2, add(3, -4), drop(-4, 3))
}

// P11.5: of several ends the first one counts, and what stands behind it isn't looked at.
func TestFirstEnd(t *testing.T) {
	row := []api.Step{add(2), add(), add(0), drop(9), add(1), drop(0), add()}
	ends(t, all(), api.Accepted, 1, row...)
	ends(t, all(), api.Refused, 0, row[1:]...)
	ends(t, all(), api.Unsound, 0, row[2:]...)
	ends(t, all(), api.Absent, 0, row[3:]...)
	ends(t, all(), api.Unsound, 1, row[4:]...)
	ends(t, all(), api.Unsound, 0, row[5:]...)
	ends(t, all(), api.Refused, 0, row[6:]...)
}

// P11.5: all short formulas and rows of steps are checked as by the chapter's words.
func TestCheckAllShort(t *testing.T) {
	for most, length := range map[int]int{2: 1, 1: 2, 0: 3} {
		for _, f := range formulas(most) {
			rows(length, func(row []api.Step) { checks(t, f, row) })
		}
	}
}

// checks says where Check answers otherwise than the chapter's words do.
func checks(t *testing.T, f api.Formula, steps []api.Step) int {
	t.Helper()
	want, wanted := byWords(f, steps)
	if got, e := forward.Check(f, steps); got != want || e != wanted {
		t.Fatalf("Check(%v, %v) = %v, error %d, wanted %v, error %d", f, steps, got, e, want, wanted)
	}
	return want.Code
}

// P11.5: so are proofs of formulas without a model, whole, with a step left out, one put in, one spoilt, two changed about.
func TestCheckDrawn(t *testing.T) {
	codes := [6]int{}
	for seed := range uint64(150) {
		draw := drawn(seed + 3000)
		f, proof := draw.drawnProof()
		ends(t, f, api.Accepted, len(proof)-1, proof...)
		for range 20 {
			codes[checks(t, f, draw.spoilt(f, proof))]++
		}
	}
	if slices.Min(codes[1:]) < 20 {
		t.Errorf("only so many by their ends: %v", codes)
	}
}

// spoilt: a proof with something changed.
func (d *drawer) spoilt(f api.Formula, proof []api.Step) []api.Step {
	out := slices.Clone(proof)
	at, other := d.Intn(len(out)), d.Intn(len(out))
	switch d.Intn(7) {
	case 0:
		return slices.Delete(out, at, at+1)
	case 1:
		return slices.Insert(out, at, d.step(f.Vars, f.Clauses))
	case 2:
		out[at].Lits = d.list(f.Vars, d.Intn(4))
	case 3:
		out[at], out[other] = out[other], out[at]
	case 4:
		out[at].Drop = !out[at].Drop
	case 5:
		out[at].Lits = append(slices.Clone(out[at].Lits), far[d.Intn(len(far))])
	default:
		return out[:at]
	}
	return out
}

// P11.5: Check is New and the steps one behind the other.
func TestCheckIsStepByStep(t *testing.T) {
	for seed := range uint64(100) {
		draw := drawn(seed + 5000)
		f, proof := draw.drawnProof()
		w := made(t, f)
		for at, step := range proof {
			done(t, w, false)
			if what, e := on(w, step); e != api.OK || !step.Drop && what != rup.Rup || step.Drop && what == forward.Missing {
				t.Fatalf("step %d of %v over %v: %d, error %d", at, proof, f, what, e)
			}
			if at < len(proof)-1 {
				ends(t, f, api.Short, at+1, proof[:at+1]...)
			}
		}
		done(t, w, true)
	}
}

// The document's tenth example of the whole: from texts to the check, and by bytes.
func TestFromTexts(t *testing.T) {
	f, e, _ := dimacs.Read("p cnf 2 4\n1 2 0\n-1 2 0\n1 -2 0\n-1 -2 0\n")
	if e != api.OK {
		t.Fatalf("the formula: error %d", e)
	}
	proof, e, _ := drat.Read("2 0\n0\n")
	if e != api.OK {
		t.Fatalf("the proof: error %d", e)
	}
	ends(t, f, api.Accepted, 1, proof...)
	ends(t, f, api.Refused, 0, proof[1:]...)
	again, e, _ := pack.Open([]byte{97, 4, 0, 97, 0})
	if e != api.OK {
		t.Fatalf("the proof as bytes: error %d", e)
	}
	ends(t, f, api.Accepted, 1, again...)
}
