package dimacs_test

import (
	"slices"
	"strings"
	"testing"

	"depot/api"
	"depot/cnf"
	"depot/dimacs"
)

// c: a clause.
func c(l ...int) []int { return l }

// form: a formula.
func form(vars int, clauses ...[]int) api.Formula {
	return api.Formula{Vars: vars, Clauses: clauses}
}

// equal: are both the same formula, clause by clause and literal by literal?
func equal(f, g api.Formula) bool {
	return f.Vars == g.Vars && slices.EqualFunc(f.Clauses, g.Clauses, slices.Equal)
}

// reads: the text is this formula's.
func reads(t *testing.T, s string, want api.Formula) {
	t.Helper()
	f, e, line := dimacs.Read(s)
	if e != api.OK || line != 0 || !equal(f, want) {
		t.Errorf("Read(%.80q) = %v, %d, %d, not %v", s, f, e, line, want)
	}
	if !cnf.Formed(f) {
		t.Errorf("Read(%.80q) is badly shaped: %v", s, f)
	}
}

// refuses: the text is none, and why, and where; nothing else is answered.
func refuses(t *testing.T, s string, want api.Errno, at int) {
	t.Helper()
	f, e, line := dimacs.Read(s)
	if e != want || line != at {
		t.Errorf("Read(%.80q): error %d in line %d, not %d in line %d", s, e, line, want, at)
	}
	if f.Vars != 0 || len(f.Clauses) != 0 {
		t.Errorf("Read(%.80q): %v beside an error", s, f)
	}
}

// P3.1: ordinary texts, and the chapter's own.
func TestRead(t *testing.T) {
	reads(t, "c a formula\np cnf 3 2\n1 -2 0\n3\n0\n", form(3, c(1, -2), c(3)))
	reads(t, "p cnf 0 1\n0", form(0, c()))
	reads(t, "c\np  cnf 2 1\nc x\n2\nc y\n2 0\n", form(2, c(2, 2)))
	reads(t, "p cnf 2 4\n1 2 0\n-1 2 0\n1 -2 0\n-1 -2 0\n", form(2, c(1, 2), c(-1, 2), c(1, -2), c(-1, -2)))
	reads(t, "p cnf 12 3\n-12 10 0 11\n-9\n1 0 7 0", form(12, c(-12, 10), c(11, -9, 1), c(7)))
}

// P3.1: formulas with nothing in them, and with the same in them twice.
func TestReadLittle(t *testing.T) {
	reads(t, "p cnf 0 0", form(0))
	reads(t, "p cnf 0 0\n", form(0))
	reads(t, "p cnf 5 0\n", form(5))
	reads(t, "p cnf 0 3\n0 0\n0\n", form(0, c(), c(), c()))
	reads(t, "p cnf 1 3\n0 1 0 0\n", form(1, c(), c(1), c()))
	reads(t, "p cnf 2 3\n2 -2 2 2 0 1 0 1 0\n", form(2, c(2, -2, 2, 2), c(1), c(1)))
}

// P3.1: clauses don't care for lines, nor for which blanks part their words.
func TestReadOverLines(t *testing.T) {
	want := form(3, c(1, -2), c(3))
	for _, s := range []string{
		"p cnf 3 2\n1 -2 0 3 0\n",
		"p cnf 3 2\n1 -2 0 3 0",
		"p cnf 3 2\n1\n-2\n0\n3\n0",
		"p cnf 3 2\n1\n-2 0 3\n0\n",
		"\tp\tcnf \t 3\t2 \n\t1\t \t-2  0\t3 0\t\t\n",
		" p cnf 3 2 \n 1 -2 0 3 0 \n",
	} {
		reads(t, s, want)
	}
}

// P3.1: idle lines say nothing, wherever they stand; a remark is known by its line's first byte.
func TestReadIdle(t *testing.T) {
	want := form(3, c(1, -2), c(3))
	for _, s := range []string{
		"\n\np cnf 3 2\n\n1 -2 0\n\n\n3 0\n\n",
		" \n\t\np cnf 3 2\n \t \n1\n  \n-2 0\n\t\n3 0\n ",
		"c\ncnf\nc p cnf 9 9\np cnf 3 2\nc0 0 0\n1\nc -3 0\n-2\ncc\n0 3\nc\t0\n0\nc",
		"c\x00\xff\r\np cnf 3 2\nc\xc3\n1 -2 0 3 0\nc é 世界\n",
		"c 1 0\np cnf 3 2\n1 -2 0 3 0\nc 1",
	} {
		reads(t, s, want)
	}
	refuses(t, " c x\np cnf 3 2\n1 -2 0 3 0\n", api.ErrHead, 1)
	refuses(t, "p cnf 3 2\n1 -2 0 3 0\n c x\n", api.ErrToken, 3)
	refuses(t, "p cnf 3 2\n1 -2 0 3 0 c\n", api.ErrToken, 2)
	refuses(t, "C\np cnf 0 0\n", api.ErrHead, 1)
}

// P3.1: the least and the greatest numbers that may stand, and those one above.
func TestReadGreatest(t *testing.T) {
	reads(t, "p cnf 1048576 0\n", form(api.MaxVar))
	reads(t, "p cnf 1048576 1\n1048576 -1048576 1 -1 0\n", form(api.MaxVar, c(api.MaxVar, -api.MaxVar, 1, -1)))
	refuses(t, "p cnf 1048577 0\n", api.ErrHead, 1)
	refuses(t, "p cnf 1048576 1\n1048577 0\n", api.ErrLit, 2)
	refuses(t, "p cnf 1048576 1\n-1048577 0\n", api.ErrLit, 2)
	// C may be far above what there is, and is held against that at the end alone.
	refuses(t, "p cnf 2 2147483647\n", api.ErrCount, 2)
	refuses(t, "p cnf 2 2147483647\n1 0\n", api.ErrCount, 3)
	refuses(t, "p cnf 2 2147483647\n3 0\n", api.ErrLit, 2)
	refuses(t, "p cnf 2 2147483648\n", api.ErrHead, 1)
	refuses(t, "p cnf 2 4294967296\n", api.ErrHead, 1)
	refuses(t, "p cnf 2 18446744073709551616\n", api.ErrHead, 1)
	refuses(t, "p cnf 4294967298 0\n", api.ErrHead, 1)
	refuses(t, "p cnf 18446744073709551618 0\n", api.ErrHead, 1)
}

// P3.1: what the first line that isn't idle has to be.
func TestReadHead(t *testing.T) {
	for _, s := range []string{
		"1 0", "p", "p cnf", "p cnf 2", "p cnf 2 1 0", "p cnf 2 1 c", "p cnf 2 1 1 1", "cnf", "cnf 2 1",
		"P cnf 2 1", "p CNF 2 1", "pcnf 2 1", "p cnf2 1", "p dnf 2 1", "p cnf2 1 1", "q cnf 2 1", "p cn 2 1", "p cnff 2 1", "pp cnf 2 1", "cnf p 2 1",
		"p cnf x 1", "p cnf 2 x", "p cnf 2 01", "p cnf 02 1", "p cnf 00 1", "p cnf 2 00",
		"p cnf -1 1", "p cnf 2 -1", "p cnf -0 1", "p cnf 2 -0", "p cnf +2 1", "p cnf 2 +1", "p cnf - 1", "p cnf 2 -",
		"p cnf 2, 1", "p cnf 2 1;", "p cnf 2.0 1", "p cnf 0x2 1", "p cnf 2 1e0", "p cnf 1_0 1",
		"p cnf 2 1\r", "p cnf\v2 1", "p\u00a0cnf 2 1", "p cnf ٢ 1", "\x00", "\xff\xfe", "0", "x", "\ufeffp cnf 2 1", "p cnf 2\x001 1", "s SATISFIABLE",
	} {
		at := 1
		if strings.HasPrefix(s, "c") {
			at = 2 // a remark: there is no head
		}
		refuses(t, s, api.ErrHead, at)
		refuses(t, s+"\n", api.ErrHead, at)
		if at == 1 {
			refuses(t, s+"\n1 0\n", api.ErrHead, 1)
			refuses(t, "c\n\n \t\nc p cnf 2 1\n"+s+"\n1 0\n", api.ErrHead, 5)
		}
	}
	// What makes up a head stands in one line.
	refuses(t, "p cnf\n2 1\n", api.ErrHead, 1)
	refuses(t, "p cnf 2\n1\n1 0\n", api.ErrHead, 1)
	refuses(t, "p cnf 2 1 1 0\n", api.ErrHead, 1)
	// And there is just one.
	refuses(t, "p cnf 2 1\np cnf 2 1\n1 0\n", api.ErrToken, 2)
}

// P3.1: a text of idle lines alone has no head; its line is the one behind the last.
func TestReadNothing(t *testing.T) {
	for _, k := range []struct {
		s  string
		at int
	}{{"", 1}, {"\n", 2}, {" ", 2}, {" \n", 2}, {"\n\n", 3}, {"\n\t", 3}, {"c", 2}, {"c\n", 2}, {"c\nc", 3}, {"c\nc\n", 3}, {"c\nc\n\n", 4}, {"c\n \n\t\t\nc p cnf 0 0", 5}} {
		refuses(t, k.s, api.ErrHead, k.at)
	}
}

// P3.1: words that are no number in tens.
func TestReadToken(t *testing.T) {
	for _, w := range []string{
		"x", "-", "--", "--1", "-0", "-00", "-01", "+1", "+0", "+", "-+1", "+-1", "00", "01", "000", "002", "-x", "1x", "x1", "1-", "1-2", "-1-", "-1x",
		"1.", "1.0", ".", "1,", "1e3", "0x1", "0b1", "0o1", "1_0", "0_1", "0-", "0x", "0,", "1\r", "0\r", "\r", "\v", "1\f", "1\x00", "\x00", "\xff", "1\xff", "-\xff",
		"１", "٢", "−1", "1\u00a0", "\u0085", "v", "c", "p", "%", "/", ":", "1/", "1:", "inf", "NaN", "9999999999999999999999x", "-9999999999999999999999-", "0000000000000000000000001",
	} {
		refuses(t, "p cnf 2 1\n1 "+w+" 0\n", api.ErrToken, 2)
		refuses(t, "p cnf 2 1\n\n1\n "+w+"\n0\n", api.ErrToken, 4)
		refuses(t, "p cnf 2 1\n1 0 "+w, api.ErrToken, 2)
	}
}

// P3.1: numbers in tens that are no literal of the formula's variables.
func TestReadLit(t *testing.T) {
	long := strings.Repeat("1234567890", 1000)
	for _, w := range []string{
		"3", "-3", "10", "-10", "1048576", "-1048576", "1048577", "-1048577", "2147483647", "-2147483648", "4294967295", "4294967296", "4294967297", "-4294967298",
		"9223372036854775807", "-9223372036854775808", "9223372036854775808", "18446744073709551615", "18446744073709551616", "18446744073709551617", "-18446744073709551618",
		"123456789012345678901234567890", "340282366920938463463374607431768211457", "-340282366920938463463374607431768211457", long, "-" + long, "1" + strings.Repeat("0", 5000), "1" + strings.Repeat("0", 4999) + "2",
	} {
		refuses(t, "p cnf 2 1\n1 "+w+" 0\n", api.ErrLit, 2)
		refuses(t, "p cnf 2 1\n1\n\nc\n"+w+"\n0\n", api.ErrLit, 5)
		refuses(t, "p cnf 2 0\n"+w, api.ErrLit, 2)
	}
	refuses(t, "p cnf 0 1\n1 0\n", api.ErrLit, 2)
	refuses(t, "p cnf 0 1\n-1 0\n", api.ErrLit, 2)
	reads(t, "p cnf 3 1\n3 -3 0\n", form(3, c(3, -3)))
}

// P3.1: what is found at the end is told of the line behind the last one.
func TestReadEnd(t *testing.T) {
	refuses(t, "p cnf 2 1\n1 -2\n", api.ErrEnd, 3)
	refuses(t, "p cnf 2 1\n1 -2", api.ErrEnd, 3)
	refuses(t, "p cnf 2 0\n1", api.ErrEnd, 3)
	refuses(t, "p cnf 2 1\n1 0\n-2\n\n", api.ErrEnd, 5)
	refuses(t, "p cnf 2 1\n1 0 2\nc\nc 0", api.ErrEnd, 5)
	refuses(t, "p cnf 2 1", api.ErrCount, 2)
	refuses(t, "p cnf 2 1\n", api.ErrCount, 2)
	refuses(t, "p cnf 2 2\n1 0\n", api.ErrCount, 3)
	refuses(t, "p cnf 2 0\n1 0\n", api.ErrCount, 3)
	refuses(t, "p cnf 2 1\n1 0 0\n", api.ErrCount, 3)
	refuses(t, "p cnf 2 0\n0", api.ErrCount, 3)
	refuses(t, "p cnf 2 3\n1 0\n\n0\n \nc", api.ErrCount, 7)
}

// P3.1: of several faults the first that one comes to is told; those of the end come last, in their order.
func TestReadFirst(t *testing.T) {
	refuses(t, "p cnf 2 9\n3 x", api.ErrLit, 2)
	refuses(t, "p cnf 2 9\nx 3", api.ErrToken, 2)
	refuses(t, "p cnf 2 9\n3\nx", api.ErrLit, 2)
	refuses(t, "p cnf 2 9\nx\n3", api.ErrToken, 2)
	refuses(t, "p cnf 2 9\n1\n3x 3", api.ErrToken, 3)
	refuses(t, "p cnf 2 9\n1\n-3 -0", api.ErrLit, 3)
	refuses(t, "p cnf 2\nx 3", api.ErrHead, 1)
	refuses(t, "p cnf 2 9\n1 0\n2\n", api.ErrEnd, 4)
	refuses(t, "p cnf 2 0\n0 0 0 0 x", api.ErrToken, 2)
	refuses(t, "p cnf 2 0\n0\n0\n0\n0 3", api.ErrLit, 5)
	refuses(t, "p cnf 2 1\n1 0\n2\n", api.ErrEnd, 4)
}
