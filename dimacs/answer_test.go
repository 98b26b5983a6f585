package dimacs_test

import (
	"slices"
	"strings"
	"testing"

	"depot/api"
	"depot/dimacs"
)

// says: the text says this.
func says(t *testing.T, s string, want bool, model ...bool) {
	t.Helper()
	if sat, m, e, line := dimacs.ReadAnswer(s); sat != want || !slices.Equal(m, model) || e != api.OK || line != 0 {
		t.Errorf("ReadAnswer(%.80q) = %v, %v, %d, %d, not %v, %v", s, sat, m, e, line, want, model)
	}
}

// saysNothing: the text is no answer's, and why, and where; nothing else is answered.
func saysNothing(t *testing.T, s string, want api.Errno, at int) {
	t.Helper()
	sat, m, e, line := dimacs.ReadAnswer(s)
	if e != want || line != at {
		t.Errorf("ReadAnswer(%.80q): error %d in line %d, not %d in line %d", s, e, line, want, at)
	}
	if sat || len(m) != 0 {
		t.Errorf("ReadAnswer(%.80q): %v, %v beside an error", s, sat, m)
	}
}

// all: so many truths that are alike.
func all(n int, is bool) []bool {
	return slices.Repeat([]bool{is}, n)
}

// P3.4: ordinary answers, and the chapter's own.
func TestReadAnswer(t *testing.T) {
	says(t, "s SATISFIABLE\nv 1\nv -2 0\n", true, true, false)
	says(t, "s SATISFIABLE\nv 1 -2 0\n", true, true, false)
	says(t, "s SATISFIABLE\nv -1 -2 -3 4 -5 6 7 -8 9 10 -11 0\n", true, false, false, false, true, false, true, true, false, true, true, false)
	says(t, "s UNSATISFIABLE\nc\n", false)
	says(t, "s UNSATISFIABLE\n", false)
	says(t, "s UNSATISFIABLE", false)
}

// P3.4: a model without variables, lines that are v alone, idle lines, other blanks, no line feed at the end.
func TestReadAnswerEdges(t *testing.T) {
	for _, s := range []string{
		"s SATISFIABLE\nv 0\n", "s SATISFIABLE\nv 0", "s SATISFIABLE\nv\nv\nv 0\nv\nv\n", "s SATISFIABLE\nv 0\nv", "c\n\n \ns SATISFIABLE\n\nc v 1 0\nv 0\n\n\t\nc v 1",
		"\ts\tSATISFIABLE\t\n\tv\t0\t", " s  SATISFIABLE \n v  0 \n v \n",
	} {
		says(t, s, true)
	}
	for _, s := range []string{
		"s SATISFIABLE\nv 1 -2 0", "s SATISFIABLE\nv 1\nv -2\nv 0", "s SATISFIABLE\nv\nv 1\nv \nc\nv -2\n\nv\t\nv 0\nv\n", "s SATISFIABLE\nv 1\nc 0\nv -2 0\nc 3\n",
	} {
		says(t, s, true, true, false)
	}
	for _, s := range []string{
		"\ns UNSATISFIABLE\n\n", "c s SATISFIABLE\ns UNSATISFIABLE\nc v 0\n \t", " s\tUNSATISFIABLE \t\n", "csat\ns UNSATISFIABLE\ncs\n",
	} {
		says(t, s, false)
	}
}

// P3.4: what the first line that isn't idle has to be.
func TestReadAnswerVerdict(t *testing.T) {
	for _, s := range []string{
		"s", "s sat", "s SAT", "s SATISFIABLE 0", "s UNSATISFIABLE 0", "s SATISFIABLE SATISFIABLE", "s SATISFIABLE UNSATISFIABLE", "s UNSATISFIABLE c", "SATISFIABLE", "UNSATISFIABLE",
		"S SATISFIABLE", "s satisfiable", "s Unsatisfiable", "sSATISFIABLE", "ss SATISFIABLE", "v SATISFIABLE", "SATISFIABLE s", "s SATISFIABLE\r", "s UNSATISFIABLE\r", "s UN SATISFIABLE", "s SATISFIABLEs",
		"s UNKNOWN", "v 1 0", "v 0", "v", "0", "p cnf 0 0", "\x00", "\xff", "s\u00a0SATISFIABLE", "s\vSATISFIABLE", " c", "s SATISFIABLE\x00", "s UNSATISFIABLE\xff", "\ufeffs SATISFIABLE",
	} {
		saysNothing(t, s, api.ErrAnswer, 1)
		saysNothing(t, s+"\n", api.ErrAnswer, 1)
		saysNothing(t, s+"\nv 0\n", api.ErrAnswer, 1)
		saysNothing(t, "c\n\nc s SATISFIABLE\n"+s+"\ns SATISFIABLE\nv x\n", api.ErrAnswer, 4)
	}
	// Both words stand in one line.
	saysNothing(t, "s\nSATISFIABLE\nv 0\n", api.ErrAnswer, 1)
}

// P3.4: a text of idle lines alone says nothing; its line is the one behind the last.
func TestReadAnswerNothing(t *testing.T) {
	for _, k := range []struct {
		s  string
		at int
	}{{"", 1}, {"\n", 2}, {" ", 2}, {"\t\n", 2}, {"c", 2}, {"c\n", 2}, {"c s SATISFIABLE\nc v 0\n", 3}, {"\n\n\nc", 5}} {
		saysNothing(t, k.s, api.ErrAnswer, k.at)
	}
}

// P3.4: behind UNSATISFIABLE no line has a word.
func TestReadAnswerUnsat(t *testing.T) {
	for _, s := range []string{"v 0", "v", "0", "x", "s UNSATISFIABLE", "s SATISFIABLE", " c", "\r", "v x", "v 2 0", "\x00"} {
		saysNothing(t, "s UNSATISFIABLE\n"+s, api.ErrAnswer, 2)
		saysNothing(t, "c\ns UNSATISFIABLE\n\nc\n"+s+"\nv x\n", api.ErrAnswer, 5)
	}
}

// P3.4: behind SATISFIABLE each line that isn't idle begins with v, ahead of the 0 and behind it.
func TestReadAnswerLines(t *testing.T) {
	for _, s := range []string{"1 0", "0", "x", "V 1", "vv 1", "v1 0", "v0", "s SATISFIABLE", "s UNSATISFIABLE", " c", "-", "+v", "\r", "v\r", "v\v1"} {
		saysNothing(t, "s SATISFIABLE\n"+s+"\nv 1 0\n", api.ErrAnswer, 2)
		saysNothing(t, "s SATISFIABLE\nv 1\n\n"+s+"\nv 0\n", api.ErrAnswer, 4)
		saysNothing(t, "s SATISFIABLE\nv 1 0\nc\nv\n"+s, api.ErrAnswer, 5)
	}
}

// P3.4: words where a number is due that are none in tens.
func TestReadAnswerToken(t *testing.T) {
	for _, w := range []string{"x", "v", "-", "--2", "-0", "+2", "+0", "02", "-02", "00", "2x", "2.", "2\r", "0\r", "0x", "\x00", "\xff", "２", "99999999999999999999999999y"} {
		saysNothing(t, "s SATISFIABLE\nv 1 "+w+" 0\n", api.ErrToken, 2)
		saysNothing(t, "s SATISFIABLE\nv 1\nc\nv\nv "+w+" 0\n", api.ErrToken, 5)
		saysNothing(t, "s SATISFIABLE\nv 1 -2 "+w, api.ErrToken, 2)
	}
}

// P3.4: numbers that aren't the one that is due.
func TestReadAnswerLit(t *testing.T) {
	long := strings.Repeat("2", 10000)
	for _, w := range []string{"1", "-1", "3", "-3", "4", "20", "22", "1048576", "1048577", "4294967298", "-4294967298", "18446744073709551618", "-18446744073709551618", "340282366920938463463374607431768211458", long, "-" + long} {
		saysNothing(t, "s SATISFIABLE\nv 1 "+w+" 0\n", api.ErrLit, 2)
		saysNothing(t, "s SATISFIABLE\nv 1\n\nv "+w+"\nv 0\n", api.ErrLit, 4)
	}
	saysNothing(t, "s SATISFIABLE\nv 2 0", api.ErrLit, 2)
	saysNothing(t, "s SATISFIABLE\nv -2 0", api.ErrLit, 2)
	saysNothing(t, "s SATISFIABLE\nv 1 2 3 3 0", api.ErrLit, 2)
}

// P3.4: a word behind the 0 is one too many, whatever it is; v alone has none.
func TestReadAnswerBehind(t *testing.T) {
	for _, w := range []string{"2", "-2", "0", "1", "x", "v", "-0", "99", strings.Repeat("9", 99), "c", "s"} {
		saysNothing(t, "s SATISFIABLE\nv 1 0 "+w, api.ErrAnswer, 2)
		saysNothing(t, "s SATISFIABLE\nv 1 0\nv\nc\nv "+w+"\n", api.ErrAnswer, 5)
	}
}

// P3.4: without the 0 the model doesn't end.
func TestReadAnswerEnd(t *testing.T) {
	saysNothing(t, "s SATISFIABLE", api.ErrEnd, 2)
	saysNothing(t, "s SATISFIABLE\n", api.ErrEnd, 2)
	saysNothing(t, "s SATISFIABLE\nv 1", api.ErrEnd, 3)
	saysNothing(t, "s SATISFIABLE\nv 1\n", api.ErrEnd, 3)
	saysNothing(t, "s SATISFIABLE\nv", api.ErrEnd, 3)
	saysNothing(t, "s SATISFIABLE\nv 1\nv 2\n\nc 0", api.ErrEnd, 6)
}

// P3.4: of several faults the first that one comes to is told.
func TestReadAnswerFirst(t *testing.T) {
	saysNothing(t, "s SATISFIABLE\nv x 2\nw", api.ErrToken, 2)
	saysNothing(t, "s SATISFIABLE\nv 2 x\nw", api.ErrLit, 2)
	saysNothing(t, "s SATISFIABLE\nv 1\nw\nv x 9", api.ErrAnswer, 3)
	saysNothing(t, "s SATISFIABLE\nv 1\nv x\nw", api.ErrToken, 3)
	saysNothing(t, "s SATISFIABLE\nv 1 3\nv 2 0 0\n", api.ErrLit, 2)
	saysNothing(t, "s SATISFIABLE\nv 0 0\nv x\n", api.ErrAnswer, 2)
}

// P3.4: a model has at most MaxVar variables.
func TestReadAnswerGreatest(t *testing.T) {
	full := strings.TrimSuffix(dimacs.WriteAnswer(true, all(api.MaxVar, false)), " 0\n")
	says(t, full+" 0\n", true, all(api.MaxVar, false)...)
	lines := strings.Count(full, "\n") + 1
	for _, w := range []string{"1048577", "-1048577", "1048576", "1", "1048578"} {
		saysNothing(t, full+" "+w+" 0\n", api.ErrLit, lines)
		saysNothing(t, full+"\nv "+w+"\n", api.ErrLit, lines+1)
	}
	saysNothing(t, full+" x\n", api.ErrToken, lines)
	saysNothing(t, full, api.ErrEnd, lines+1)
}

// tells: the answer has this text.
func tells(t *testing.T, sat bool, m []bool, want string) {
	t.Helper()
	if s := dimacs.WriteAnswer(sat, m); s != want {
		t.Errorf("WriteAnswer(%v, %v) = %q, not %q", sat, m, s, want)
	}
}

// P3.5: ordinary answers, and the chapter's own.
func TestWriteAnswer(t *testing.T) {
	tells(t, true, []bool{true, false}, "s SATISFIABLE\nv 1 -2 0\n")
	tells(t, true, []bool{false, false, true}, "s SATISFIABLE\nv -1 -2 3 0\n")
	tells(t, true, nil, "s SATISFIABLE\nv 0\n")
	tells(t, true, []bool{}, "s SATISFIABLE\nv 0\n")
	tells(t, false, nil, "s UNSATISFIABLE\n")
	tells(t, false, []bool{true}, "s UNSATISFIABLE\n")
	tells(t, false, all(100, true), "s UNSATISFIABLE\n")
}

// P3.5: lines of 78 bytes stay, and of 79 are broken ahead of the number that makes them so.
func TestWriteAnswerLines(t *testing.T) {
	ten := "1 2 3 4 5 6 7 8 9 10 11 12 13 14 15 16 17 18 19 20 21 22 23 24 25 26 27"
	tells(t, true, all(27, true), "s SATISFIABLE\nv "+ten+" 0\n")
	tells(t, true, all(28, true), "s SATISFIABLE\nv "+ten+" 28 0\n")
	tells(t, true, all(29, true), "s SATISFIABLE\nv "+ten+" 28\nv 29 0\n")
	tells(t, true, append(all(28, true), false), "s SATISFIABLE\nv "+ten+" 28\nv -29 0\n")
	// A minus counts: v and -1 to -9 take 28 bytes, -10 to -21 take 4 each: 76; the 0 makes 78.
	minus := "-1 -2 -3 -4 -5 -6 -7 -8 -9 -10 -11 -12 -13 -14 -15 -16 -17 -18 -19 -20 -21"
	tells(t, true, all(21, false), "s SATISFIABLE\nv "+minus+" 0\n")
	tells(t, true, all(22, false), "s SATISFIABLE\nv "+minus+"\nv -22 0\n")
	// 77 bytes ahead of the 0, which would make 79: it stands alone in the last line.
	tells(t, true, append([]bool{false}, all(27, true)...), "s SATISFIABLE\nv -"+ten+" 28\nv 0\n")
	// 78 bytes by a number, and the 0 behind it.
	tells(t, true, append([]bool{false, false}, all(26, true)...), "s SATISFIABLE\nv -1 -"+ten[2:]+" 28\nv 0\n")
}

// P3.5: every line is as full as it may be, whatever the model.
func TestWriteAnswerFull(t *testing.T) {
	draw := drawn(5)
	for n := range 400 {
		m := draw.truths(n)
		wantLines(t, m, dimacs.WriteAnswer(true, m))
	}
	wantLines(t, nil, dimacs.WriteAnswer(true, nil))
	big := draw.truths(api.MaxVar + 100)
	wantLines(t, big, dimacs.WriteAnswer(true, big))
}
