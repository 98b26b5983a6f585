package race

import (
	"sync"
	"sync/atomic"

	"depot/api"
)

// A search can't be stopped on its way. One that may still be called off is therefore allowed a few conflicts first, then twice as many, and so on: when it is called off, the try that is on takes about as long as those ahead of it did.
const firstShare = 1000

// finish is what the search of a config has come to.
type finish struct {
	number int
	o      api.Outcome
}

// contest is a race that is on.
type contest struct {
	f       api.Formula
	l       []api.Config
	search  func(api.Formula, api.Config) (api.Outcome, api.Errno)
	numbers chan int      // of the configs to be searched with, rising
	ended   chan finish   // what the workers have found
	done    chan struct{} // closed when the answer is known
	least   atomic.Int64  // the least number that is known not to be Out; the number of configs, if none is
	next    atomic.Int64  // the least number that isn't known to be Out
}

// begun: a race with nobody at work yet.
func begun(f api.Formula, l []api.Config, search func(api.Formula, api.Config) (api.Outcome, api.Errno)) *contest {
	r := &contest{
		f: f, l: l, search: search,
		numbers: make(chan int), ended: make(chan finish), done: make(chan struct{}),
	}
	r.least.Store(int64(len(l)))
	return r
}

// run: the answer of the race, when nobody is at work any more.
func (r *contest) run(workers int) (who int, o api.Outcome) {
	var crew sync.WaitGroup
	for range min(workers, len(r.l)) {
		crew.Add(1)
		go r.work(&crew)
	}
	who, o = r.judge()
	close(r.done)
	crew.Wait()
	return who, o
}

// judge hands out numbers and hears what becomes of them, until the answer is known: all configs ahead of the least one that isn't Out are known to be. What it has heard counts ahead of the next number that it hands out.
func (r *contest) judge() (who int, o api.Outcome) {
	who, o = -1, api.Outcome{End: api.Out}
	out := make([]bool, len(r.l))
	for n := 0; r.next.Load() < r.least.Load(); {
		select {
		case r.open(n) <- n:
			n++
		case x := <-r.ended:
			if x.o.End == api.Out {
				out[x.number] = true
				r.pass(out)
			} else if r.isBelow(x.number) {
				who, o = x.number, x.o
				r.least.Store(int64(who))
			}
		}
	}
	return who, o
}

// open: the channel of numbers, if there is a search to be made of this one; else none, over which nothing goes.
func (r *contest) open(n int) chan<- int {
	if r.isBelow(n) {
		return r.numbers
	}
	return nil
}

// isBelow: is the number below all that are known not to be Out?
func (r *contest) isBelow(n int) bool { return int64(n) < r.least.Load() }

// isNext: are all configs ahead of this one known to be Out, so that it is needed in any case?
func (r *contest) isNext(n int) bool { return int64(n) == r.next.Load() }

// pass goes on to the least number that isn't known to be Out.
func (r *contest) pass(out []bool) {
	n := r.next.Load()
	for n < int64(len(out)) && out[n] {
		n++
	}
	r.next.Store(n)
}

// work takes numbers, and tells what the searches of these configs come to, until it is called off.
func (r *contest) work(crew *sync.WaitGroup) {
	defer crew.Done()
	for {
		select {
		case <-r.done:
			return
		case n := <-r.numbers:
			r.tell(n)
		}
	}
}

// tell makes the search of a config, and tells what it comes to, unless it is called off.
func (r *contest) tell(n int) {
	o, ok := r.outcome(n)
	if !ok {
		return
	}
	select {
	case <-r.done:
	case r.ended <- finish{n, o}:
	}
}

// outcome: what the search of a config comes to; false, if one ahead of it is known not to be Out, so that nobody asks for it any more.
func (r *contest) outcome(n int) (api.Outcome, bool) {
	for share := firstShare; r.isBelow(n); share *= 2 {
		c := r.l[n]
		whole := r.isNext(n) || c.Budget >= 0 && c.Budget <= share
		if !whole {
			c.Budget = share
		}
		if o, _ := r.search(r.f, c); whole || o.End != api.Out {
			return o, true
		}
	}
	return api.Outcome{}, false
}
