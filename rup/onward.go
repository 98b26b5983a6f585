package rup

import (
	"depot/api"
	"depot/lits"
)

// onward is a closing without a clash that is led further from more facts and taken back, again and again: to close the whole formula anew for each partner would take too long.
type onward struct {
	clauses [][]int
	holds   []bool  // by a literal's Index: is it true?
	left    []int32 // of each clause that isn't true at the beginning: how many of its literals, each once, aren't false
	first   []int32 // by a literal's Index: the first of the places where it stands; 0: it stands nowhere
	places  []place // from 1 on, in clauses that aren't true at the beginning
	more    []int   // what has become true since the beginning
	ready   []int32 // clauses that have had one literal left since the beginning
}

// place is where a literal stands: a clause, and the next place of the same literal (0: there is none).
type place struct {
	clause int32
	next   int32
}

// clash is the value with which a closing leaves where it meets one.
type clash struct{}

// lead: what is led further from the closure of a well shaped formula.
func lead(f api.Formula, closure []int) *onward {
	n := 2 * greatest(f)
	w := &onward{
		clauses: f.Clauses,
		holds:   make([]bool, n),
		left:    make([]int32, len(f.Clauses)),
		first:   make([]int32, n),
		places:  make([]place, 1),
	}
	for _, l := range closure {
		// What is above all clauses can be in no clause's way.
		if i := lits.Index(l); i < n {
			w.holds[i] = true
		}
	}
	for number, d := range f.Clauses {
		if !w.anyTrue(d) {
			w.enter(int32(number), d)
		}
	}
	return w
}

// greatest: the greatest variable that stands in a clause. Vars may be far above it, and as much memory isn't needed then.
func greatest(f api.Formula) int {
	most := 0
	for _, d := range f.Clauses {
		for _, l := range d {
			most = max(most, lits.Var(l))
		}
	}
	return most
}

// enter notes where the literals of a clause stand that aren't false.
func (w *onward) enter(number int32, d []int) {
	for _, l := range d {
		i := lits.Index(l)
		if w.isTrue(-l) {
			continue
		}
		// The place that was noted last comes first, so a literal that stands in the clause twice is seen there.
		if first := w.first[i]; first > 0 && w.places[first].clause == number {
			continue
		}
		w.places = append(w.places, place{number, w.first[i]})
		w.first[i] = int32(len(w.places) - 1)
		w.left[number]++
	}
}

// isTrue: is a literal of the clauses' variables true?
func (w *onward) isTrue(l int) bool {
	return w.holds[lits.Index(l)]
}

// anyTrue: is a clause true?
func (w *onward) anyTrue(d []int) bool {
	for _, l := range d {
		if w.isTrue(l) {
			return true
		}
	}
	return false
}

// clashes: is it a clash, if all literals of a clause but one are false, too? Afterwards it is as it was.
func (w *onward) clashes(d []int, but int) (yes bool) {
	defer func() {
		met := recover()
		w.back()
		if met == nil {
			return
		}
		if _, yes = met.(clash); !yes {
			panic(met)
		}
	}()
	for _, l := range d {
		if l != but {
			w.put(-l)
		}
	}
	for k := 0; k < len(w.ready); k++ {
		w.look(w.ready[k])
	}
	return false
}

// put makes a literal true.
func (w *onward) put(l int) {
	if w.isTrue(-l) {
		panic(clash{})
	}
	if w.isTrue(l) {
		return
	}
	w.holds[lits.Index(l)] = true
	w.more = append(w.more, l)
	for p := w.first[lits.Index(-l)]; p > 0; p = w.places[p].next {
		number := w.places[p].clause
		w.left[number]--
		if w.left[number] == 1 {
			w.ready = append(w.ready, number)
		}
	}
}

// look takes a clause that had one literal left when it became ready: that one is to be true, or it is false by now.
func (w *onward) look(number int32) {
	for _, l := range w.clauses[number] {
		if !w.isTrue(-l) {
			w.put(l)
			return
		}
	}
	panic(clash{})
}

// back takes back all that has become true since the beginning.
func (w *onward) back() {
	for _, l := range w.more {
		w.holds[lits.Index(l)] = false
		for p := w.first[lits.Index(-l)]; p > 0; p = w.places[p].next {
			w.left[w.places[p].clause]++
		}
	}
	w.more, w.ready = w.more[:0], w.ready[:0]
}
