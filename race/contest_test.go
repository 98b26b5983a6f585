package race

import (
	"slices"
	"sync"
	"testing"
	"testing/synctest"

	"depot/api"
	"depot/solve"
)

// scene is a race of searches that are played: each is known by its config's First, and has as many conflicts as its needs say.
type scene struct {
	l     []api.Config
	needs []int
	wait  func(n int) // what a search waits for on its way; none, if nil

	lock    sync.Mutex
	running int
	most    int     // so many ran at a time
	asked   [][]int // the Budgets with which each was made
}

// staged: the scene of these needs and Budgets.
func staged(needs, budgets []int) *scene {
	s := &scene{needs: needs, asked: make([][]int, len(needs))}
	for n, b := range budgets {
		s.l = append(s.l, api.Config{Base: 1, First: n + 1, Grow: 1, Decay: 1, Phase: 1, Budget: b})
	}
	return s
}

// search plays one, by the words of P17.2.
func (s *scene) search(f api.Formula, c api.Config) (api.Outcome, api.Errno) {
	n := c.First - 1
	s.begin(n, c.Budget)
	defer s.end()
	if s.wait != nil {
		s.wait(n)
	}
	if c.Budget >= 0 && c.Budget < s.needs[n] {
		return api.Outcome{End: api.Out, Conflicts: c.Budget}, api.OK
	}
	return s.outcome(n), api.OK
}

// outcome: what a search comes to without a bound.
func (s *scene) outcome(n int) api.Outcome {
	return api.Outcome{End: api.Sat, Model: make([]bool, n), Conflicts: s.needs[n]}
}

func (s *scene) begin(n, budget int) {
	s.lock.Lock()
	defer s.lock.Unlock()
	s.running++
	s.most = max(s.most, s.running)
	s.asked[n] = append(s.asked[n], budget)
}

func (s *scene) end() {
	s.lock.Lock()
	defer s.lock.Unlock()
	s.running--
}

// now: how many searches run, how many ran at most, and the Budgets of each.
func (s *scene) now() (running, most int, asked [][]int) {
	s.lock.Lock()
	defer s.lock.Unlock()
	for _, one := range s.asked {
		asked = append(asked, slices.Clone(one))
	}
	return s.running, s.most, asked
}

// play: the race of the scene, on its way in a goroutine of its own; its answer comes over the channel.
func (s *scene) play(workers int) chan finish {
	answer := make(chan finish, 1)
	go func() {
		who, o := begun(api.Formula{}, needed(s.l), s.search).run(workers)
		answer <- finish{who, o}
	}()
	return answer
}

// wanted: the answer by the words of P19.1.
func (s *scene) wanted() finish {
	for n, c := range s.l {
		if c.Budget < 0 || c.Budget >= s.needs[n] {
			return finish{n, s.outcome(n)}
		}
	}
	return finish{-1, api.Outcome{End: api.Out}}
}

func sameFinish(a, b finish) bool {
	return a.number == b.number && a.o.End == b.o.End && a.o.Conflicts == b.o.Conflicts && len(a.o.Model) == len(b.o.Model) && len(a.o.Proof) == len(b.o.Proof)
}

// gates: so many that are shut.
func gates(n int) []chan struct{} {
	out := make([]chan struct{}, n)
	for k := range out {
		out[k] = make(chan struct{})
	}
	return out
}

// orders: all orders of the numbers below n.
func orders(n int) [][]int {
	if n == 0 {
		return [][]int{nil}
	}
	var out [][]int
	for _, row := range orders(n - 1) {
		for k := range n {
			out = append(out, slices.Insert(slices.Clone(row), k, n-1))
		}
	}
	return out
}

// P4, P19.2: whichever of the searches are Out, in whatever order they end, and whatever the number of workers: the answer is that of the least.
func TestEveryOrderOfEnding(t *testing.T) {
	const n = 4
	for _, order := range orders(n) {
		for bits := range 1 << n {
			needs, budgets := []int{3, 4, 5, 6}, []int{9, 9, 9, 9}
			for k := range n {
				if bits>>k&1 == 1 {
					budgets[k] = 2
				}
			}
			for workers := 1; workers <= n+1; workers++ {
				synctest.Test(t, func(t *testing.T) {
					s, gate := staged(needs, budgets), gates(n)
					s.wait = func(k int) { <-gate[k] }
					answer := s.play(workers)
					for _, k := range order {
						synctest.Wait()
						close(gate[k])
					}
					if got := <-answer; !sameFinish(got, s.wanted()) {
						t.Fatalf("order %v, Budgets %v, %d workers: %v", order, budgets, workers, got)
					}
				})
			}
		}
	}
}

// P19.2: as many searches run at a time as there are workers, never more; of fewer configs all.
func TestNoMoreThanWorkers(t *testing.T) {
	for _, configs := range []int{1, 2, 5, 70, 150} {
		for _, workers := range []int{1, 2, 3, 8, 63, 64} {
			synctest.Test(t, func(t *testing.T) {
				s := staged(slices.Repeat([]int{9}, configs), slices.Repeat([]int{5}, configs))
				next := make(chan struct{})
				s.wait = func(int) { <-next }
				answer := s.play(workers)
				for left := configs; left > 0; left-- {
					synctest.Wait()
					if running, _, _ := s.now(); running != min(workers, left) {
						t.Fatalf("%d searches run, with %d workers and %d left", running, workers, left)
					}
					next <- struct{}{}
				}
				if got := <-answer; got.number != -1 {
					t.Fatalf("%v", got)
				}
				if _, most, _ := s.now(); most != min(workers, configs) {
					t.Errorf("%d ran at a time, with %d workers", most, workers)
				}
			})
		}
	}
}

// P19.2: when the answer comes none of the searches runs any more, however long one takes; and the answer waits for no more than that.
func TestNobodyRunsAnyMore(t *testing.T) {
	synctest.Test(t, func(t *testing.T) {
		s, gate := staged([]int{1, 2, 3, 1, 5}, []int{7, 7, 7, 0, 7}), gates(5)
		s.wait = func(n int) { <-gate[n] }
		answer := s.play(5)
		for _, n := range []int{3, 0, 4, 1} {
			synctest.Wait()
			if len(answer) != 0 {
				t.Fatal("it answers while a search runs")
			}
			close(gate[n])
		}
		synctest.Wait()
		if running, _, _ := s.now(); running != 1 || len(answer) != 0 {
			t.Fatalf("%d run, %d answers", running, len(answer))
		}
		close(gate[2])
		synctest.Wait()
		if running, _, _ := s.now(); running != 0 || len(answer) != 1 {
			t.Fatalf("%d run, %d answers", running, len(answer))
		}
		if got := <-answer; !sameFinish(got, s.wanted()) || got.number != 0 {
			t.Errorf("%v", got)
		}
	})
}

// P19.2: once a config is known not to be Out no search of one behind it begins.
func TestNoneBehindBegins(t *testing.T) {
	for round := range 50 {
		synctest.Test(t, func(t *testing.T) {
			s, gate := staged(slices.Repeat([]int{3}, 9), slices.Repeat([]int{5}, 9)), make(chan struct{})
			s.l[0].Budget = round % 2 * 9
			s.wait = func(n int) {
				if n == 0 {
					<-gate
				}
			}
			answer := s.play(2)
			synctest.Wait()
			close(gate)
			got := <-answer
			if _, _, asked := s.now(); !sameFinish(got, s.wanted()) || len(slices.Concat(asked[2:]...)) != 0 {
				t.Fatalf("%v, asked %v", got, asked)
			}
		})
	}
}

// P19.2: a search that isn't needed any more is called off: it isn't gone on with, however much it would take.
func TestCalledOff(t *testing.T) {
	for tries := range 8 {
		for _, budget := range []int{-1, 1 << 40} {
			synctest.Test(t, func(t *testing.T) {
				s, gate, step := staged([]int{2500, 1 << 30}, []int{3000, budget}), make(chan struct{}), make(chan struct{})
				s.wait = func(n int) {
					if n == 0 {
						<-gate
						return
					}
					<-step
				}
				answer := s.play(2)
				for range tries {
					step <- struct{}{}
				}
				synctest.Wait()
				close(gate)
				synctest.Wait()
				step <- struct{}{}
				synctest.Wait()
				if len(answer) != 1 {
					t.Fatal("it isn't called off")
				}
				_, _, asked := s.now()
				if got := <-answer; got.number != 0 || len(asked[0]) != 1 || len(asked[1]) != tries+1 {
					t.Fatalf("%v, asked %v", got, asked)
				}
			})
		}
	}
}

// P19.2: one that is known to be behind is called off, too, while the answer isn't known yet.
func TestCalledOffBeforeTheAnswer(t *testing.T) {
	synctest.Test(t, func(t *testing.T) {
		s, gate, step := staged([]int{4, 5, 1 << 30}, []int{3, 9, -1}), gates(2), make(chan struct{})
		s.wait = func(n int) {
			if n == 2 {
				<-step
				return
			}
			<-gate[n]
		}
		answer := s.play(3)
		synctest.Wait()
		close(gate[1])
		synctest.Wait()
		step <- struct{}{}
		synctest.Wait()
		if running, _, asked := s.now(); running != 1 || len(asked[2]) != 1 {
			t.Fatalf("%d run, asked %v", running, asked)
		}
		close(gate[0])
		if got := <-answer; got.number != 1 {
			t.Errorf("%v", got)
		}
	})
}

// P19.2: one worker makes each search once, with its own Budget, as if they were made one behind the other, and none behind the answer.
func TestOneWorker(t *testing.T) {
	for round := range 30 {
		s := staged([]int{5000, 70000, 9000, 8000, 1}, []int{4000, 60000, 8999, 8000 + round%2, 1})
		got := <-s.play(1)
		_, most, asked := s.now()
		if !sameFinish(got, s.wanted()) || got.number != 3 || most != 1 || len(asked[4]) != 0 {
			t.Fatalf("%v, asked %v", got, asked)
		}
		for n := range 4 {
			if !slices.Equal(asked[n], []int{s.l[n].Budget}) {
				t.Fatalf("%d was asked with %v", n, asked[n])
			}
		}
	}
}

// P19.2: a search that becomes the next one is made whole.
func TestNextIsMadeWhole(t *testing.T) {
	synctest.Test(t, func(t *testing.T) {
		s, gate, step := staged([]int{2, 1 << 30}, []int{1, -5}), make(chan struct{}), make(chan struct{})
		s.wait = func(n int) {
			if n == 0 {
				<-gate
				return
			}
			<-step
		}
		answer := s.play(2)
		step <- struct{}{}
		step <- struct{}{}
		synctest.Wait()
		close(gate)
		synctest.Wait()
		step <- struct{}{}
		step <- struct{}{}
		got := <-answer
		if _, _, asked := s.now(); !sameFinish(got, s.wanted()) || !slices.Equal(asked[1], []int{1000, 2000, 4000, -5}) {
			t.Fatalf("%v, asked %v", got, asked)
		}
	})
}

// P19.1: a search that is made in shares comes to what it comes to as a whole, at the edges of the shares and of its Budget.
func TestShares(t *testing.T) {
	edges := []int{0, 1, 999, 1000, 1001, 1999, 2000, 2001, 3999, 4000, 4001, 7000, 64000, 64001}
	for _, need := range edges {
		for _, budget := range append([]int{-1, 1 << 50}, edges...) {
			for _, first := range []int{0, 9} {
				synctest.Test(t, func(t *testing.T) {
					s, gate := staged([]int{5, need, 1}, []int{first, budget, 1}), make(chan struct{})
					s.wait = func(n int) {
						if n == 0 {
							<-gate
						}
					}
					answer := s.play(2)
					synctest.Wait()
					close(gate)
					if got := <-answer; !sameFinish(got, s.wanted()) {
						t.Fatalf("needs %d, Budget %d: %v", need, budget, got)
					}
				})
			}
		}
	}
}

// P19.1, P19.4: of configs without a bound none behind the first one is ever searched with.
func TestNeeded(t *testing.T) {
	free, bound := solve.Usual(), solve.Usual()
	bound.Budget = 0
	for k, l := range [][]api.Config{{free}, {free, free}, {free, bound}, {bound, free, bound, free}, {bound, bound}} {
		want := []int{1, 1, 1, 2, 2}[k]
		if got := needed(l); !slices.Equal(got, l[:want]) {
			t.Errorf("needed(%v) = %v", l, got)
		}
	}
}
