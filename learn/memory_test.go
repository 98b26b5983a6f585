package learn_test

import (
	"math"
	"runtime"
	"slices"
	"sync"
	"testing"

	"depot/api"
	"depot/learn"
)

// spoil writes all over a list and the room behind its end, and lets it grow.
func spoil(c []int) {
	whole := c[:cap(c)]
	for k := range whole {
		whole[k] = 999
	}
	for range 20 {
		c = append(c, 888)
	}
}

// roomy: the same list with room behind its end, in which something stands.
func roomy(c []int) []int {
	out := append(slices.Clone(c), 777, 776, 775)
	return out[:len(c)]
}

// roomyTrail: likewise of a trail and its reasons.
func roomyTrail(trail []api.Entry) []api.Entry {
	var out []api.Entry
	for _, x := range trail {
		out = append(out, api.Entry{Lit: x.Lit, Level: x.Level, Reason: roomy(x.Reason)})
	}
	out = append(out, at(777, 7, 77), at(776, 6, 66))
	return out[:len(trail)]
}

// whole: a list with the room behind its end.
func whole(c []int) []int { return c[:cap(c)] }

func sameEntry(a, b api.Entry) bool {
	return a.Lit == b.Lit && a.Level == b.Level && slices.Equal(whole(a.Reason), whole(b.Reason))
}

// copied: all of a trail, with the room behind all ends.
func copied(trail []api.Entry) []api.Entry {
	var out []api.Entry
	for _, x := range trail[:cap(trail)] {
		out = append(out, api.Entry{Lit: x.Lit, Level: x.Level, Reason: slices.Clip(slices.Clone(whole(x.Reason)))})
	}
	return out
}

// unchanged: a trail is still what was copied.
func unchanged(trail, before []api.Entry) bool {
	return slices.EqualFunc(trail[:cap(trail)], before, sameEntry)
}

// P15.6, Memory: what is handed in is only read, with the room behind its end, refused or not; and what is answered is new memory.
func TestHandedInIsOnlyRead(t *testing.T) {
	for seed := range uint64(1500) {
		draw := drawn(seed + 300000)
		trail := roomyTrail(draw.trail(1 + draw.Intn(10)))
		if draw.Intn(3) == 0 {
			trail = roomyTrail(draw.spoilt(trail))
		}
		clause := roomy(draw.clause(trail))
		trailBefore, clauseBefore := copied(trail), slices.Clone(whole(clause))
		learn.Formed(trail)
		one, back, e := learn.Learn(trail, clause)
		two, level, _ := learn.Learn(trail, clause)
		three, errno := learn.Shrink(trail, clause)
		four, _ := learn.Shrink(trail, clause)
		learn.Levels(trail, clause)
		five, _ := learn.Shrink(trail, two)
		keep, short := slices.Clone(two), slices.Clone(four)
		spoil(one)
		spoil(three)
		spoil(five)
		if !unchanged(trail, trailBefore) || !slices.Equal(whole(clause), clauseBefore) {
			t.Fatalf("%v or %v has changed, was %v, %v", trail, clause, trailBefore, clauseBefore)
		}
		if !slices.Equal(two, keep) || !slices.Equal(four, short) || back != level {
			t.Fatalf("another answer is spoilt: %v, %v", two, four)
		}
		if again, _, e1 := learn.Learn(trail, clause); !slices.Equal(again, keep) || e1 != e {
			t.Fatalf("Learn answers %v, %d now", again, e1)
		}
		if again, e1 := learn.Shrink(trail, clause); !slices.Equal(again, short) || e1 != errno {
			t.Fatalf("Shrink answers %v, %d now", again, e1)
		}
	}
}

// Memory: an answer stays as it is, whatever becomes of what was handed in.
func TestAnswersStay(t *testing.T) {
	trail, conflict := ahead(), list(-5, -3)
	clause, _, _ := learn.Learn(trail, conflict)
	alike := list(-3, -1)
	short, _ := learn.Shrink(trail, alike)
	one := list(-5)
	single, _, _ := learn.Learn(trail, one)
	spoil(conflict)
	spoil(alike)
	spoil(one)
	for k := range trail {
		spoil(trail[k].Reason)
		trail[k] = at(0, 0)
	}
	if !slices.Equal(clause, list(-3, -2)) || !slices.Equal(short, list(-3, -1)) || !slices.Equal(single, list(-5)) {
		t.Errorf("the answers are %v, %v, %v now", clause, short, single)
	}
}

// Any argument: no call panics, whatever is handed in.
func TestAnyArgument(t *testing.T) {
	numbers := append(noLiterals(), 1, -1, 2, -2, api.MaxVar, -api.MaxVar)
	levels := list(math.MinInt, -1, 0, 1, 2, math.MaxInt-1, math.MaxInt)
	draw := drawn(9)
	any := func(n int) []int {
		var out []int
		for range draw.Intn(n) {
			out = append(out, numbers[draw.Intn(len(numbers))])
		}
		return out
	}
	for range 50000 {
		var trail []api.Entry
		for range draw.Intn(4) {
			trail = append(trail, at(numbers[draw.Intn(len(numbers))], levels[draw.Intn(len(levels))], any(4)...))
		}
		holds(t, trail, any(5))
	}
}

// told: all that the calls answer of a drawn trail and drawn clauses, as numbers.
func told(seed uint64) []int {
	draw := drawn(seed + 400000)
	trail := draw.trail(30)
	var out []int
	for range 20 {
		clause := draw.clause(trail)
		c, back, e := learn.Learn(trail, clause)
		out = append(append(out, c...), back, int(e))
		c, e = learn.Shrink(trail, clause)
		out = append(append(out, c...), int(e))
		n, e := learn.Levels(trail, clause)
		out = append(out, n, int(e))
	}
	return out
}

// Sameness: the same calls answer the same.
func TestSameAgain(t *testing.T) {
	for seed := range uint64(30) {
		want := told(seed)
		for range 5 {
			if !slices.Equal(told(seed), want) {
				t.Fatalf("the calls of %d answered otherwise", seed)
			}
		}
	}
}

// Sameness: also in lists with more room, and with other calls between.
func TestSameWithRoom(t *testing.T) {
	for seed := range uint64(300) {
		draw := drawn(seed + 500000)
		trail := draw.trail(12)
		clause := draw.clause(trail)
		c, back, e := learn.Learn(trail, clause)
		learn.Shrink(chain(), list(-1))
		d, level, errno := learn.Learn(roomyTrail(trail), roomy(clause))
		if !slices.Equal(c, d) || back != level || e != errno {
			t.Errorf("Learn(%v, %v): %v, %d, %d, then %v, %d, %d", trail, clause, c, back, e, d, level, errno)
		}
	}
}

// Sameness: so they do beside one another, of the same trail.
func TestSameBesideOneAnother(t *testing.T) {
	want := [][]int{told(0), told(1), told(2), told(3)}
	trail := ahead()
	var group sync.WaitGroup
	for k := range 16 {
		group.Go(func() {
			for range 5 {
				if seed := k % 4; !slices.Equal(told(uint64(seed)), want[seed]) {
					t.Errorf("the calls of %d answered otherwise", seed)
				}
				if c, back, e := learn.Learn(trail, list(-5, -3)); !slices.Equal(c, list(-3, -2)) || back != 1 || e != api.OK {
					t.Errorf("Learn answered %v, %d, %d", c, back, e)
				}
			}
		})
	}
	group.Wait()
}

// Sameness: on one processor or many.
func TestSameOnOneProcessor(t *testing.T) {
	want := told(1)
	defer runtime.GOMAXPROCS(runtime.GOMAXPROCS(1))
	if !slices.Equal(told(1), want) {
		t.Error("on one processor the calls answered otherwise")
	}
}

// Sameness: no call leaves a goroutine behind.
func TestNoGoroutineLeft(t *testing.T) {
	before := runtime.NumGoroutine()
	for seed := range uint64(20) {
		told(seed)
	}
	if now := runtime.NumGoroutine(); now > before {
		t.Errorf("%d goroutines, %d before", now, before)
	}
}
