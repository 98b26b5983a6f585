package dimacs_test

import (
	"slices"
	"strings"
	"sync"
	"testing"

	"depot/api"
	"depot/dimacs"
)

// behind: the list at the head of a longer memory, so that what is written behind its end can be seen.
func behind[E any](list []E, further ...E) []E {
	return append(slices.Clone(list), further...)[:len(list)]
}

// whole: the list with all the room behind its end.
func whole[E any](list []E) []E {
	return list[:cap(list)]
}

// seen: all that can be seen of a formula, the places behind its ends too, copied.
func seen(f api.Formula) api.Formula {
	out := form(f.Vars)
	for _, d := range whole(f.Clauses) {
		out.Clauses = append(out.Clauses, slices.Clone(whole(d)))
	}
	return out
}

// spoil writes all over a clause and the room behind its end.
func spoil(d []int) {
	for k := range whole(d) {
		whole(d)[k] = 999
	}
}

// Memory: what comes in is read, no more, nor are the places behind it written.
func TestArgumentsStay(t *testing.T) {
	f := form(3)
	for _, d := range [][]int{c(1, -2), c(), c(3, 3), nil} {
		f.Clauses = append(f.Clauses, behind(d, 77, -78, 79))
	}
	f.Clauses = behind(f.Clauses, c(5), nil)
	m := behind([]bool{true, false, true}, true, true, false)
	wantF, wantM := seen(f), slices.Clone(whole(m))
	dimacs.Write(f)
	dimacs.Write(form(2, f.Clauses...))
	dimacs.WriteAnswer(true, m)
	dimacs.WriteAnswer(false, m)
	if !equal(seen(f), wantF) {
		t.Errorf("Write has written into what came in: %v", seen(f))
	}
	if !slices.Equal(whole(m), wantM) {
		t.Errorf("WriteAnswer has written into what came in: %v", whole(m))
	}
}

// Memory: nobody remembers what came in.
func TestArgumentsAreForgotten(t *testing.T) {
	f, m := form(3, c(1, -2), c(3)), []bool{true, false}
	s, _ := dimacs.Write(f)
	a := dimacs.WriteAnswer(true, m)
	spoil(f.Clauses[0])
	f.Clauses[1], m[0] = nil, false
	if s != "p cnf 3 2\n1 -2 0\n3 0\n" || a != "s SATISFIABLE\nv 1 -2 0\n" {
		t.Errorf("with the arguments spoilt: %q, %q", s, a)
	}
}

const (
	someText   = "p cnf 3 7\n1 -2 0 0 3 0\n-1 2 -3 1 2 0 0 2 0 2 0\n"
	someAnswer = "s SATISFIABLE\nv 1 -2 3\nv 4 -5 0\n"
)

// read: the formula of the text that is some formula's.
func read(t *testing.T) api.Formula {
	t.Helper()
	f, e, _ := dimacs.Read(someText)
	if e != api.OK {
		t.Fatalf("Read: error %d", e)
	}
	return f
}

// Memory: an answer is the caller's, with the room behind its ends; Sameness: the next call answers the same.
func TestAnswersAreTheCallers(t *testing.T) {
	want := form(3, c(1, -2), c(), c(3), c(-1, 2, -3, 1, 2), c(), c(2), c(2))
	first, second := read(t), read(t)
	for _, d := range whole(first.Clauses) {
		spoil(d)
	}
	for k := range whole(first.Clauses) {
		whole(first.Clauses)[k] = c(888)
	}
	if !equal(second, want) || !equal(read(t), want) {
		t.Errorf("Read, another answer spoilt: %v, %v", second, read(t))
	}
	_, m, _, _ := dimacs.ReadAnswer(someAnswer)
	_, other, _, _ := dimacs.ReadAnswer(someAnswer)
	for k := range whole(m) {
		whole(m)[k] = k == 1 || k == 4
	}
	if !slices.Equal(other, []bool{true, false, true, true, false}) {
		t.Errorf("ReadAnswer, another answer spoilt: %v", other)
	}
	says(t, someAnswer, true, true, false, true, true, false)
}

// Memory: no two clauses of one answer share anything, nor the room behind their ends.
func TestClausesAreApart(t *testing.T) {
	want := read(t)
	for k := range want.Clauses {
		got := read(t)
		spoil(append(got.Clauses[k], 5))
		spoil(got.Clauses[k])
		got.Clauses[k] = want.Clauses[k]
		if !equal(got, want) {
			t.Errorf("the clause %d spoilt: %v", k, got)
		}
	}
}

// Memory: a list that a clause is read into is no answer's, of a long clause ahead of short ones either.
func TestClausesKeepTheirOwn(t *testing.T) {
	f, e, _ := dimacs.Read("p cnf 9 4\n" + strings.Repeat("7 ", 100) + "0 1 2 0 3 0 4 5 0\n")
	if e != api.OK {
		t.Fatalf("Read: error %d", e)
	}
	if want := form(9, slices.Repeat(c(7), 100), c(1, 2), c(3), c(4, 5)); !equal(f, want) {
		t.Errorf("Read = %v", f)
	}
}

// Sameness: refusals, too, are the same again.
func TestSameAgain(t *testing.T) {
	for range 3 {
		refuses(t, "p cnf 2 1\n1 x 0\n", api.ErrToken, 2)
		reads(t, "p cnf 2 1\n1 0\n", form(2, c(1)))
		saysNothing(t, "s SATISFIABLE\nv 1", api.ErrEnd, 3)
		says(t, "s SATISFIABLE\nv -1 0", true, false)
		writes(t, form(1, c(-1)), "p cnf 1 1\n-1 0\n")
		tells(t, true, []bool{false}, "s SATISFIABLE\nv -1 0\n")
	}
}

// Sameness: many goroutines that call at the same time hear the same, and share nothing.
func TestSameBesideOneAnother(t *testing.T) {
	want := read(t)
	var group sync.WaitGroup
	for range 8 {
		group.Go(func() {
			for range 20 {
				f, e, line := dimacs.Read(someText)
				if !equal(f, want) || e != api.OK || line != 0 {
					t.Errorf("Read = %v, %d, %d", f, e, line)
				}
				for _, d := range f.Clauses {
					spoil(d)
				}
				if s, e := dimacs.Write(want); e != api.OK || !strings.HasPrefix(s, "p cnf 3 7\n1 -2 0\n0\n") {
					t.Errorf("Write = %q, %d", s, e)
				}
				says(t, someAnswer, true, true, false, true, true, false)
				tells(t, true, []bool{true}, "s SATISFIABLE\nv 1 0\n")
			}
		})
	}
	group.Wait()
}
