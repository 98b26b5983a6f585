package pace_test

import (
	"math"
	"testing"

	"depot/api"
	"depot/pace"
)

func answers(t *testing.T, what string, got, want bool) {
	t.Helper()
	if got != want {
		t.Errorf("%s: %v", what, got)
	}
}

// P13.3: the zero Pace and ErrShape of what isn't formed.
func TestMakeRefuses(t *testing.T) {
	for _, c := range unformed() {
		if p, e := pace.Make(c); e != api.ErrShape || p.Conflict != nil || p.Restart != nil || p.Clear != nil {
			t.Errorf("Make(%v): error %d", c, e)
		}
	}
}

// P13.3: ahead of any conflict both are false, however often they are asked, and the first conflict counts all the same.
func TestNoConflictYet(t *testing.T) {
	for _, c := range someLed() {
		p := made(t, c)
		for range 3 {
			answers(t, "Restart ahead of any conflict", p.Restart(), false)
			answers(t, "Clear ahead of any conflict", p.Clear(), false)
		}
		p.Conflict()
		answers(t, "Restart behind one conflict", p.Restart(), c.Base == 1)
		answers(t, "Clear behind one conflict", p.Clear(), c.First == 1)
	}
}

// P13.3: asked twice behind one another, the second time is false: the count begins anew, whatever was over.
func TestTheCountBeginsAnew(t *testing.T) {
	p := made(t, led(2, 3, 2))
	conflicts(p, 100)
	answers(t, "Restart, 100 of 2", p.Restart(), true)
	answers(t, "Restart again", p.Restart(), false)
	answers(t, "Clear, 100 of 3", p.Clear(), true)
	answers(t, "Clear again", p.Clear(), false)
	p.Conflict()
	answers(t, "Restart, 1 of 2", p.Restart(), false)
	conflicts(p, 3)
	answers(t, "Restart, 4 of 2", p.Restart(), true)
	answers(t, "Clear, 4 of 5", p.Clear(), false)
	p.Conflict()
	answers(t, "Clear, 5 of 5", p.Clear(), true)
	conflicts(p, 2)
	answers(t, "Restart, 3 of 4", p.Restart(), false)
	p.Conflict()
	answers(t, "Restart, 4 of 4", p.Restart(), true)
	conflicts(p, 3)
	answers(t, "Clear, 6 of 7", p.Clear(), false)
	p.Conflict()
	answers(t, "Clear, 7 of 7", p.Clear(), true)
}

// P13.3: at its bounds, one conflict fewer than wanted and just as many.
func TestGreatestCounts(t *testing.T) {
	p := made(t, led(api.MaxPace, api.MaxPace, api.MaxPace))
	conflicts(p, api.MaxPace-1)
	answers(t, "Restart, one too few", p.Restart(), false)
	answers(t, "Clear, one too few", p.Clear(), false)
	p.Conflict()
	answers(t, "Restart, enough", p.Restart(), true)
	answers(t, "Clear, enough", p.Clear(), true)
	conflicts(p, api.MaxPace-1)
	answers(t, "the second Restart, one too few", p.Restart(), false)
	p.Conflict()
	answers(t, "the second Restart, enough", p.Restart(), true)
	answers(t, "the second Clear wants twice as many", p.Clear(), false)
	conflicts(p, api.MaxPace-1)
	answers(t, "the second Clear, one too few", p.Clear(), false)
	p.Conflict()
	answers(t, "the second Clear, enough", p.Clear(), true)
	answers(t, "the third Restart wants twice as many", p.Restart(), false)
}

// P13.3: how many conflicts each restart and each clearing wants, one behind the other.
func TestWanted(t *testing.T) {
	for _, c := range []api.Config{led(1, 1, 1), led(3, 5, 2), led(7, 1, 10)} {
		p := made(t, c)
		for k := 1; k <= 300; k++ {
			conflicts(p, c.Base*lubyByWords(k)-1)
			answers(t, "Restart, one too few", p.Restart(), false)
			p.Conflict()
			answers(t, "Restart, enough", p.Restart(), true)
		}
		p = made(t, c)
		for j := range 100 {
			conflicts(p, c.First+j*c.Grow-1)
			answers(t, "Clear, one too few", p.Clear(), false)
			p.Conflict()
			answers(t, "Clear, enough", p.Clear(), true)
		}
	}
}

// P13.3 by its words: any calls, in any order.
func TestPaceByWords(t *testing.T) {
	for seed := range uint64(300) {
		draw := drawn(seed)
		c := led(1+draw.Intn(4), 1+draw.Intn(6), 1+draw.Intn(4))
		p, r := made(t, c), &record{c: c}
		often := 1 + draw.Intn(8)
		for n := range 400 {
			switch draw.Intn(2 + often) {
			case 0:
				if got, want := p.Restart(), r.Restart(); got != want {
					t.Fatalf("%v: Restart at %d: %v, behind %v", c, n, got, r.events)
				}
			case 1:
				if got, want := p.Clear(), r.Clear(); got != want {
					t.Fatalf("%v: Clear at %d: %v, behind %v", c, n, got, r.events)
				}
			default:
				p.Conflict()
				r.Conflict()
			}
		}
	}
}

// P13.3: Restart and Clear know nothing of one another: to ask the one, or not, changes no answer of the other.
func TestQuestionsApart(t *testing.T) {
	c := led(2, 3, 2)
	both, restarts, clears := made(t, c), made(t, c), made(t, c)
	for n := range 2000 {
		for _, p := range []pace.Pace{both, restarts, clears} {
			p.Conflict()
		}
		again, cleared := both.Restart(), both.Clear()
		if restarts.Restart() != again {
			t.Fatalf("Restart at %d: %v, Clear being asked too", n, again)
		}
		if clears.Clear() != cleared {
			t.Fatalf("Clear at %d: %v, Restart being asked too", n, cleared)
		}
	}
}

// P13.3: two Paces know nothing of one another, of one config or of two.
func TestPacesApart(t *testing.T) {
	p, q, other := made(t, led(2, 3, 2)), made(t, led(2, 3, 2)), made(t, led(1, 1, 1))
	conflicts(p, 10)
	for _, still := range []pace.Pace{q, other, made(t, led(1, 1, 1))} {
		answers(t, "Restart of another", still.Restart(), false)
		answers(t, "Clear of another", still.Clear(), false)
	}
	conflicts(q, 3)
	answers(t, "Restart, 3 of 2", q.Restart(), true)
	answers(t, "Clear, 3 of 3", q.Clear(), true)
	answers(t, "Restart, 10 of 2", p.Restart(), true)
	answers(t, "Clear, 10 of 3", p.Clear(), true)
	other.Conflict()
	answers(t, "Restart, 1 of 1", other.Restart(), true)
	conflicts(p, 5)
	answers(t, "Clear, 0 of 5", q.Clear(), false)
	answers(t, "Clear, 5 of 5", p.Clear(), true)
}

// P13.3: what else stands in a config says nothing of the pace.
func TestOtherFields(t *testing.T) {
	want := planByWords(made(t, led(2, 3, 2)), 500)
	for _, c := range []api.Config{
		{Base: 2, First: 3, Grow: 2, Decay: 0.5, Phase: api.PhaseFalse, Budget: 0},
		{Base: 2, First: 3, Grow: 2, Decay: 1, Phase: api.PhaseTrue, Budget: math.MinInt},
		{Base: 2, First: 3, Grow: 2, Decay: 0.75, Phase: api.PhaseKept, Budget: 5},
	} {
		sameBeats(t, "a Pace", planByWords(made(t, c), 500), want)
		sameBeats(t, "Plan", planned(t, c, 500), want)
	}
}

// Example 4.
func TestPaceExample(t *testing.T) {
	p := made(t, led(1, 1, 1))
	answers(t, "Restart: none yet", p.Restart(), false)
	p.Conflict()
	answers(t, "Restart with Base 1", p.Restart(), true)
	answers(t, "Restart again", p.Restart(), false)
	p = made(t, led(2, 1, 1))
	conflicts(p, 5)
	answers(t, "Restart with Base 2", p.Restart(), true)
	answers(t, "Restart again", p.Restart(), false)
}
