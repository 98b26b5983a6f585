package unit

import (
	"depot/api"
	"depot/cnf"
	"depot/lits"
)

// closing is the closing of a formula, as far as it has come. To look at all clauses each time would take too long: a clause is looked at when all but one of its literals are false, as it is neither false nor unit earlier.
type closing struct {
	clauses [][]int
	inL     []bool  // by a literal's Index: whether it stands in L (the chapter's word for what is true so far)
	left    []int32 // of each clause: how many of its literals, each once, aren't false
	first   []int32 // by a literal's Index: the first of the places where it stands; 0: it stands nowhere
	places  []place // from 1 on
	waiting waiting // clauses with one literal left or none that nobody has looked at yet
	causes  []api.Cause
}

// place is where a literal stands: a clause, and the next place of the same literal (0: there is none).
type place struct {
	clause int32
	next   int32
}

// begin: the closing of a well shaped formula, with nothing in L yet.
func begin(f api.Formula) *closing {
	n := 2 * greatest(f)
	w := &closing{
		clauses: f.Clauses,
		inL:     make([]bool, n),
		left:    make([]int32, len(f.Clauses)),
		first:   make([]int32, n),
		places:  make([]place, 1, cnf.Size(f)+1),
		waiting: room(len(f.Clauses)),
	}
	for number, c := range f.Clauses {
		w.enter(int32(number), c)
	}
	return w
}

// greatest: the greatest variable that stands in a clause. Vars may be far above it, and as much memory isn't needed then.
func greatest(f api.Formula) int {
	most := 0
	for _, c := range f.Clauses {
		for _, l := range c {
			most = max(most, lits.Var(l))
		}
	}
	return most
}

// enter notes where a clause's literals stand.
func (w *closing) enter(number int32, c []int) {
	for _, l := range c {
		i := lits.Index(l)
		// The place that was noted last comes first, so a literal that stands in the clause twice is seen there.
		if first := w.first[i]; first > 0 && w.places[first].clause == number {
			continue
		}
		w.places = append(w.places, place{number, w.first[i]})
		w.first[i] = int32(len(w.places) - 1)
		w.left[number]++
	}
	if w.left[number] <= 1 {
		w.waiting.add(int(number))
	}
}

// run takes clauses that are false or unit, each time the one with the least number, until one is false, whose number it answers, or no more is: -1.
func (w *closing) run() int {
clauses:
	for !w.waiting.none() {
		number := w.waiting.take()
		open := 0
		for _, l := range w.clauses[number] {
			if w.holds(l) {
				continue clauses
			}
			if !w.holds(-l) {
				open = l
			}
		}
		if open == 0 {
			return number
		}
		w.put(open)
		w.causes = append(w.causes, api.Cause{Lit: open, Clause: number})
	}
	return -1
}

// holds: does a literal of the clauses' variables stand in L?
func (w *closing) holds(l int) bool {
	return w.inL[lits.Index(l)]
}

// meets: is the literal's variable at most the greatest one of the clauses? What is above it can be in no clause's way.
func (w *closing) meets(l int) bool {
	return lits.Index(l) < len(w.inL)
}

// put puts a literal to L, whose opposite doesn't stand there.
func (w *closing) put(l int) {
	if !w.meets(l) || w.holds(l) {
		return
	}
	w.inL[lits.Index(l)] = true
	for p := w.first[lits.Index(-l)]; p > 0; p = w.places[p].next {
		number := w.places[p].clause
		w.left[number]--
		if w.left[number] == 1 {
			w.waiting.add(int(number))
		}
	}
}

// takeBack takes out of L a literal that stands there.
func (w *closing) takeBack(l int) {
	w.inL[lits.Index(l)] = false
	for p := w.first[lits.Index(-l)]; p > 0; p = w.places[p].next {
		w.left[w.places[p].clause]++
	}
}

// clashes: would it be a clash with one literal more? L has to be closed, and is as it was afterwards. What a literal leads to without a clash leads to none by itself either: fine keeps that, by Index.
func (w *closing) clashes(l int, fine []bool) bool {
	if !w.meets(l) || w.holds(l) || fine[lits.Index(l)] {
		return false
	}
	if w.holds(-l) {
		return true
	}
	ahead := len(w.causes)
	w.put(l)
	clash := w.run() >= 0
	for _, c := range w.causes[ahead:] {
		w.takeBack(c.Lit)
		if !clash {
			fine[lits.Index(c.Lit)] = true
		}
	}
	w.takeBack(l)
	w.causes = w.causes[:ahead]
	w.waiting.empty()
	return clash
}
