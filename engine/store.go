package engine

import "depot/arena"

// store holds the clauses as they were put, by numbers from 1 on: a number stays when the arena moves the clause.
type store struct {
	*arena.Arena
	places []arena.Ref // by number; nowhere of one that no clause has
	unused []int32     // the numbers of clauses that were dropped
	waste  int         // the arena's words of these clauses
}

// asking is what the arena is asked about the clause at a place, for its literals.
type asking func(arena.Ref) ([]int, bool)

// nobody is the number of no clause.
const nobody = 0

// nowhere is the place of no clause.
const nowhere arena.Ref = -1

// emptyStore: a store without clauses.
func emptyStore() store {
	return store{Arena: arena.New(), places: []arena.Ref{nowhere}}
}

// put lays a sound list into the arena, and gives it a number.
func (s *store) put(c []int, learnt bool) int32 {
	at, _ := s.Put(c, learnt)
	if k := len(s.unused) - 1; k >= 0 {
		number := s.unused[k]
		s.unused, s.places[number] = s.unused[:k], at
		return number
	}
	s.places = append(s.places, at)
	return int32(len(s.places) - 1)
}

// clause: the literals of the clause with that number.
func (s *store) clause(number int32, ask asking) []int {
	c, _ := ask(s.places[number])
	return c
}

// each: those of all these.
func (s *store) each(numbers []int32, ask asking) [][]int {
	out := make([][]int, 0, len(numbers))
	for _, number := range numbers {
		out = append(out, s.clause(number, ask))
	}
	return out
}

// drop takes the clause with so many literals out that has that number.
func (s *store) drop(number int32, size int) {
	s.Drop(s.places[number])
	s.places[number] = nowhere
	s.unused = append(s.unused, number)
	s.waste += size + 1
	// To move all clauses each time would take too long.
	if 2*s.waste > s.Words() {
		s.sweep()
	}
}

// sweep lets the arena move its clauses together, and notes where each went.
func (s *store) sweep() {
	moved := s.Sweep()
	for number, at := range s.places {
		if to, ok := moved(at); ok {
			s.places[number] = to
		}
	}
	s.waste = 0
}
