package pace_test

import (
	"runtime"
	"slices"
	"sync"
	"testing"

	"depot/api"
	"depot/pace"
)

// spoil writes into a list, and into the room behind its end.
func spoil(beats []api.Beat) {
	whole := beats[:cap(beats)]
	for k := range whole {
		whole[k] = api.Beat{Conflicts: -99, Clear: !whole[k].Clear}
	}
}

// Memory: a plan is the caller's, with the room behind its end: to write into it, or to let it grow, changes no other one.
func TestPlansAreTheCallers(t *testing.T) {
	for _, c := range []api.Config{led(1, 1, 1), led(2, 3, 2), led(100, 2000, 300)} {
		for _, n := range []int{100, 1000, 5000} {
			want := planByWords(made(t, c), n)
			mine, other := planned(t, c, n), planned(t, c, n)
			grown := append(mine, api.Beat{Conflicts: 77})
			spoil(mine)
			spoil(grown)
			sameBeats(t, "a plan made ahead", other, want)
			sameBeats(t, "a plan made behind", planned(t, c, n), want)
			sameBeats(t, "a shorter one", planned(t, c, n/2), planByWords(made(t, c), n/2))
		}
	}
}

// Memory: a Pace that goes on changes no plan, and a plan no Pace.
func TestPlansAndPacesApart(t *testing.T) {
	c := led(2, 3, 2)
	want := planByWords(made(t, c), 200)
	p, untouched := made(t, c), made(t, c)
	conflicts(p, 5)
	before := planned(t, c, 200)
	spoil(planned(t, c, 200))
	conflicts(p, 1000)
	p.Restart()
	p.Clear()
	sameBeats(t, "a plan ahead of it", before, want)
	sameBeats(t, "a plan behind it", planned(t, c, 200), want)
	sameBeats(t, "a Pace made ahead", planByWords(untouched, 200), want)
}

// asked: what the calls answer of a config, one behind the other.
func asked(c api.Config, n int) []api.Beat {
	var out []api.Beat
	p, e := pace.Make(c)
	out = append(out, api.Beat{Conflicts: int(e), Clear: pace.Formed(c)})
	if e == api.OK {
		for range 3 * n {
			p.Conflict()
			out = append(out, api.Beat{Clear: p.Restart()}, api.Beat{Clear: p.Clear()})
		}
	}
	beats, e := pace.Plan(c, n)
	out = append(append(out, beats...), api.Beat{Conflicts: int(e)})
	for x := range pace.Seq() {
		if out = append(out, api.Beat{Conflicts: x}); x > n {
			break
		}
	}
	return append(out, api.Beat{Conflicts: pace.Luby(n)})
}

// Sameness: the same calls answer the same, refusals too.
func TestSameAgain(t *testing.T) {
	for _, c := range append(unformed(), led(1, 1, 1), led(2, 3, 2), led(100, 2000, 300)) {
		for _, n := range []int{0, 1, 63, 500} {
			want := asked(c, n)
			for range 3 {
				sameBeats(t, "again", asked(c, n), want)
			}
		}
	}
}

// Sameness: so they do while others call, and one sequence serves them all.
func TestSameBesideOneAnother(t *testing.T) {
	configs := []api.Config{led(1, 1, 1), led(2, 3, 2), led(7, 20, 5), {}}
	var want [][]api.Beat
	for _, c := range configs {
		want = append(want, asked(c, 500))
	}
	seq, numbers := pace.Seq(), lubyByRuns(10)
	var group sync.WaitGroup
	for k := range 16 {
		group.Go(func() {
			for range 20 {
				which := k % len(configs)
				if got := asked(configs[which], 500); !slices.Equal(got, want[which]) {
					t.Errorf("the calls of %v answered otherwise", configs[which])
				}
				if !slices.Equal(begun(seq, len(numbers)), numbers) {
					t.Error("one sequence, ranged over beside one another, is another one")
				}
			}
		})
	}
	group.Wait()
}

// Sameness: on one processor or many.
func TestSameOnOneProcessor(t *testing.T) {
	c := led(2, 3, 2)
	want := asked(c, 500)
	defer runtime.GOMAXPROCS(runtime.GOMAXPROCS(1))
	sameBeats(t, "on one processor", asked(c, 500), want)
}

// Sameness: no call leaves a goroutine behind, a Pace that is still asked and a sequence that was left included.
func TestNoGoroutineLeft(t *testing.T) {
	before := runtime.NumGoroutine()
	var kept []pace.Pace
	for range 100 {
		p := made(t, led(1, 1, 1))
		conflicts(p, 10)
		p.Restart()
		p.Clear()
		kept = append(kept, p)
		planned(t, led(1, 1, 1), 1000)
		begun(pace.Seq(), 3)
	}
	if now := runtime.NumGoroutine(); now > before {
		t.Errorf("%d goroutines, %d before", now, before)
	}
	runtime.KeepAlive(kept)
}
