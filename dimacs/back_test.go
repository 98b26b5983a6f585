package dimacs_test

import (
	"slices"
	"strconv"
	"strings"
	"testing"

	"depot/api"
	"depot/dimacs"
)

// drawer draws things by a rule of its own, so that they are the same at every run.
type drawer struct{ state uint64 }

func drawn(seed uint64) *drawer { return &drawer{seed} }

// Intn: a number from 0 to n - 1.
func (d *drawer) Intn(n int) int {
	d.state = d.state*6364136223846793005 + 1442695040888963407
	return int(d.state >> 33 % uint64(n))
}

// truths: a model of so many variables.
func (d *drawer) truths(n int) []bool {
	m := make([]bool, n)
	for k := range m {
		m[k] = d.Intn(2) == 0
	}
	return m
}

// formula: a formula with few or many variables, literals twice and clauses without any among them.
func (d *drawer) formula() api.Formula {
	f := form([]int{0, 1, 2, 5, 40, 1000, api.MaxVar}[d.Intn(7)])
	for range d.Intn(6) {
		var clause []int
		for range d.Intn(6) {
			if f.Vars > 0 {
				clause = append(clause, (1+d.Intn(f.Vars))*(1-2*d.Intn(2)))
			}
		}
		f.Clauses = append(f.Clauses, clause)
	}
	return f
}

// pick: one of them.
func (d *drawer) pick(of ...string) string { return of[d.Intn(len(of))] }

// idle: some idle lines, or none.
func (d *drawer) idle() string {
	out := ""
	for range d.Intn(3) {
		out += d.pick("\n", " \n", "\t \n", "c\n", "c 1 0\n", "cnf x\n", "c\tp cnf 1 1\n", "c\xff\x00\r\n", "c v 0\n", "c s SATISFIABLE\n")
	}
	return out
}

// blank: what may stand for a space.
func (d *drawer) blank() string { return d.pick(" ", "\t", "  ", " \t ", "\t\t", " ") }

// edge: what may stand ahead of a line's first word, and behind its last.
func (d *drawer) edge() string { return d.pick("", "", " ", "\t", " \t") }

// loosened: the text with idle lines put in and other blanks for its spaces; lines behind the first are cut over several, each of which begins with lead.
func (d *drawer) loosened(s, lead string) string {
	out := d.idle()
	for k, line := range strings.Split(strings.TrimSuffix(s, "\n"), "\n") {
		out += d.edge()
		for j, word := range strings.Split(line, " ") {
			switch {
			case j == 0:
			case k > 0 && d.Intn(3) == 0:
				out += d.edge() + "\n" + d.idle() + d.edge() + lead
			default:
				out += d.blank()
			}
			out += word
		}
		out += d.edge() + "\n" + d.idle()
	}
	if d.Intn(3) == 0 {
		out = strings.TrimSuffix(out, "\n")
	}
	return out
}

// P3.3: what Write writes Read reads as the same.
func TestThereAndBack(t *testing.T) {
	draw := drawn(1)
	for range 3000 {
		f := draw.formula()
		s, e := dimacs.Write(f)
		if e != api.OK {
			t.Fatalf("Write(%v): error %d", f, e)
		}
		reads(t, s, f)
	}
}

// P3.3: a formula of many clauses, and one with a long clause, there and back.
func TestThereAndBackLarge(t *testing.T) {
	many, long := form(api.MaxVar), form(api.MaxVar, nil)
	for v := 1; v <= api.MaxVar; v++ {
		long.Clauses[0] = append(long.Clauses[0], -v)
		if v%4 == 0 {
			many.Clauses = append(many.Clauses, c(v, 1-v))
		}
	}
	for _, f := range []api.Formula{many, long} {
		s, e := dimacs.Write(f)
		if e != api.OK {
			t.Fatalf("Write: error %d", e)
		}
		if g, e, line := dimacs.Read(s); e != api.OK || line != 0 || !equal(f, g) {
			t.Errorf("Read(Write(f)): error %d in line %d", e, line)
		}
	}
}

// P3.3: idle lines and other blanks change nothing.
func TestThereAndBackLoosened(t *testing.T) {
	draw := drawn(2)
	for range 3000 {
		f := draw.formula()
		s, _ := dimacs.Write(f)
		reads(t, draw.loosened(s, ""), f)
	}
}

// P3.3: but the lines' numbers: of a fault behind so many idle lines.
func TestIdleLinesCount(t *testing.T) {
	for n := range 20 {
		idle := strings.Repeat("\n", n)
		refuses(t, idle+"p cnf 1\n", api.ErrHead, 1+n)
		refuses(t, "p cnf 1 1\n1\n"+idle+"2 0\n", api.ErrLit, 3+n)
		refuses(t, idle+"p cnf 1 1\n"+idle+"1 +\n", api.ErrToken, 2+2*n)
		refuses(t, "p cnf 1 1\n1\n"+idle, api.ErrEnd, 3+n)
	}
}

// P3.5: what WriteAnswer writes ReadAnswer reads as the same; of UNSATISFIABLE there is no model.
func TestAnswerThereAndBack(t *testing.T) {
	draw := drawn(3)
	for n := range 300 {
		m := draw.truths(n)
		says(t, dimacs.WriteAnswer(true, m), true, m...)
		says(t, dimacs.WriteAnswer(false, m), false)
		says(t, draw.loosened(dimacs.WriteAnswer(true, m), "v "), true, m...)
		says(t, draw.loosened(dimacs.WriteAnswer(false, m), ""), false)
	}
	m := draw.truths(api.MaxVar)
	says(t, dimacs.WriteAnswer(true, m), true, m...)
	m = append(m, true)
	s := dimacs.WriteAnswer(true, m)
	saysNothing(t, s, api.ErrLit, 1+strings.Count(s[:strings.Index(s, "1048577")], "\n"))
}

// wantLines: the text says SATISFIABLE and the model, in lines that are as full as may be.
func wantLines(t *testing.T, m []bool, s string) {
	t.Helper()
	lines := strings.Split(s, "\n")
	if len(lines) < 3 || lines[0] != "s SATISFIABLE" || lines[len(lines)-1] != "" {
		t.Fatalf("%d variables: %.100q", len(m), s)
	}
	lines = lines[1 : len(lines)-1]
	var words []string
	for k, line := range lines {
		first, numbers, found := strings.Cut(line, " ")
		if first != "v" || !found || len(line) > 78 {
			t.Fatalf("%d variables: the line %q", len(m), line)
		}
		words = append(words, strings.Split(numbers, " ")...)
		if k+1 < len(lines) {
			next, _, _ := strings.Cut(lines[k+1][2:], " ")
			if len(line+" "+next) <= 78 {
				t.Fatalf("%d variables: %q has room for %q", len(m), line, next)
			}
		}
	}
	want := make([]string, 0, len(m)+1)
	for k, is := range m {
		if is {
			want = append(want, strconv.Itoa(k+1))
		} else {
			want = append(want, "-"+strconv.Itoa(k+1))
		}
	}
	if !slices.Equal(words, append(want, "0")) {
		t.Fatalf("%d variables: other numbers", len(m))
	}
}
