package trim

import "depot/api"

// reading is a proof that is gone through from its beginning on. What is true by the clauses that have come in stays so: to close all of them anew at each step would take too long.
type reading struct {
	closing
	by  [][]int32 // by a clause's number: the clauses by which it follows, if it was added; and, if a literal is true by it, those by which its other ones are false
	ill []int32   // clauses that are a clash without any facts; none, as long as there is no clash
}

// read: do additions, of which the last is the empty clause, hold over clauses? And the numbers, rising, of those that are enough for the last one, and its own; the additions' numbers go on behind the clauses'.
func read(clauses [][]int, additions []api.Step) ([]int32, bool) {
	r := &reading{}
	for _, c := range clauses {
		if len(r.ill) == 0 {
			r.take(r.coded(c), nil)
		}
	}
	for _, step := range additions {
		// In a clash everything follows, and needs no more additions. Without one the empty clause doesn't follow.
		if len(r.ill) > 0 {
			break
		}
		c := r.coded(step.Lits)
		by, follows := r.follows(c)
		if !follows {
			return nil, false
		}
		r.take(c, by)
	}
	return append(r.needed(), int32(len(clauses)+len(additions)-1)), true
}

// take lets a clause come in, and notes by which others.
func (r *reading) take(c, by []int32) {
	known := len(r.row)
	number, possible := r.enter(c)
	r.by = append(r.by, by)
	clash := possible == 0
	if possible == 1 {
		r.know(c[0], number)
	}
	if !clash {
		number, clash = r.tell()
	}
	if clash {
		r.ill = r.behind(number)
		return
	}
	for _, l := range r.row[known:] {
		r.settle(l)
	}
}

// settle notes what stands behind a literal that stays true. Each clause that needs it later is content with the clause by which it is true: to note all clauses behind that one each time would take too much memory.
func (r *reading) settle(l int32) {
	number := r.why[l/2]
	c := &r.clauses[number]
	c.settled = true
	for _, other := range c.literals {
		if other != l {
			r.by[number] = append(r.by[number], r.why[other/2])
		}
	}
}

// needed: the numbers, rising, of the clauses by which there is a clash, and of all by which those are there.
func (r *reading) needed() []int32 {
	waiting := r.ill
	for len(waiting) > 0 {
		number := waiting[len(waiting)-1]
		waiting = waiting[:len(waiting)-1]
		if c := &r.clauses[number]; !c.met {
			c.met = true
			waiting = append(waiting, r.by[number]...)
		}
	}
	var out []int32
	for number, c := range r.clauses {
		if c.met {
			out = append(out, int32(number))
		}
	}
	return out
}
