package drat_test

import (
	"slices"
	"strconv"
	"strings"
	"testing"

	"depot/api"
	"depot/drat"
)

// add: a step that adds a clause.
func add(l ...int) api.Step { return api.Step{Lits: l} }

// drop: a step that takes a clause out.
func drop(l ...int) api.Step { return api.Step{Drop: true, Lits: l} }

// equal: are both the same steps, literal by literal?
func equal(a, b []api.Step) bool {
	return slices.EqualFunc(a, b, func(x, y api.Step) bool {
		return x.Drop == y.Drop && slices.Equal(x.Lits, y.Lits)
	})
}

// round: one round of Steps, whole.
func round(s string) []api.Step { return slices.Collect(drat.Steps(s)) }

// reads: the text is that of these steps, by Read and by Steps.
func reads(t *testing.T, s string, want ...api.Step) {
	t.Helper()
	if l, e, line := drat.Read(s); e != api.OK || line != 0 || !equal(l, want) {
		t.Errorf("Read(%.80q) = %v, %d, %d, not %v", s, l, e, line, want)
	}
	if l := round(s); !equal(l, want) {
		t.Errorf("Steps(%.80q) gives %v, not %v", s, l, want)
	}
}

// refuses: the text has its first fault in that line; Read answers nothing besides, Steps gives what stands ahead.
func refuses(t *testing.T, s string, at int, ahead ...api.Step) {
	t.Helper()
	l, e, line := drat.Read(s)
	if e != api.ErrStep || line != at {
		t.Errorf("Read(%.80q): error %d in line %d, not %d in line %d", s, e, line, api.ErrStep, at)
	}
	if len(l) != 0 {
		t.Errorf("Read(%.80q): %v beside an error", s, l)
	}
	if l := round(s); !equal(l, ahead) {
		t.Errorf("Steps(%.80q) gives %v, not %v", s, l, ahead)
	}
}

// P9.1: ordinary proofs, and the chapter's own.
func TestRead(t *testing.T) {
	reads(t, "1 -2 0\nd 3 0\n0\n", add(1, -2), drop(3), add())
	reads(t, "c x\nd\n1\nc\n0 2 2 0", drop(1), add(2, 2))
	reads(t, "2 0\n0\n", add(2), add())
	reads(t, "-12 10 0\nd -12 10 0\n11 -9 1 0\nd 7 0\n", add(-12, 10), drop(-12, 10), add(11, -9, 1), drop(7))
	reads(t, "1 0\n1 0\nd 1 0\nd 1 0\n", add(1), add(1), drop(1), drop(1))
}

// P9.1: texts without words have no steps.
func TestReadNothing(t *testing.T) {
	for _, s := range []string{"", "\n", "\n\n\n", " ", "\t", " \t \n\t\n", "c", "c\n", "c x", "c 1 0\n", "cnf\nc\n\n \nc d 1 0\n", "cc", "c0", "c\t\n", "c d\n\n"} {
		reads(t, s)
	}
}

// P9.1: the empty clause, added and taken out.
func TestReadEmptyClause(t *testing.T) {
	reads(t, "0", add())
	reads(t, "0\n", add())
	reads(t, "d 0", drop())
	reads(t, "d\n0\n", drop())
	reads(t, "0 0 d 0 0 d 0", add(), add(), drop(), add(), drop())
	reads(t, "1 0 0 2 0", add(1), add(), add(2))
	reads(t, "d 1 0 0 d 0 2 0", drop(1), add(), drop(), add(2))
}

// P9.1: literals as they stand: twice, beside their opposites, in any order.
func TestReadAsTheyStand(t *testing.T) {
	reads(t, "2 2 0", add(2, 2))
	reads(t, "d 3 -3 1 3 -1 0", drop(3, -3, 1, 3, -1))
	reads(t, "9 -8 7 -6 5 0", add(9, -8, 7, -6, 5))
}

// P9.1: the greatest literal and the least one; all digits.
func TestReadLiterals(t *testing.T) {
	reads(t, "1048576 -1048576 0", add(api.MaxVar, -api.MaxVar))
	reads(t, "d -1048576 0 1048576 0", drop(-api.MaxVar), add(api.MaxVar))
	reads(t, "1048575 -1048575 1 -1 0", add(1048575, -1048575, 1, -1))
	reads(t, "10 -10 100 -1000 999999 -1000000 1023456 -789 0", add(10, -10, 100, -1000, 999999, -1000000, 1023456, -789))
}

// P9.1: a step may stand over several lines, and several in one; which blanks part the words, and how many, says nothing.
func TestReadOverLines(t *testing.T) {
	for _, s := range []string{
		"1 -2 0\nd 3 0\n0\n", "1 -2 0\nd 3 0\n0", "1 -2 0 d 3 0 0", "1 -2 0 d 3 0 0\n", "1\n-2\n0\nd\n3\n0\n0", "1 -2\n0 d\n3 0 0\n", "1\n-2 0 d 3\n0\n0",
		" 1 -2 0\n d 3 0\n 0\n", "\t1\t-2\t0\t\n\td\t3\t0\t\n\t0\t\n", "  1 \t -2\t\t0 \n d  3 \t0  0 \t", "1 -2 0\nd 3 0\n0 ", "1 -2 0\nd 3 0\n0\t",
	} {
		reads(t, s, add(1, -2), drop(3), add())
	}
}

// P9.1: idle lines anywhere, also in the midst of a step; a remark is one by its first byte alone.
func TestReadIdle(t *testing.T) {
	idles := []string{"", " ", "\t \t", "c", "c ", "cx", "c 9 0", "c d", "c0", "cd 7 0", "c\t1\t0\t", "c !\"#$%&'()*+,-./:;<=>?@[]^_`{|}~\\", "ccc c c"}
	for _, idle := range idles {
		i := idle + "\n"
		reads(t, i+"d 1 0\n2 0\n", drop(1), add(2))
		reads(t, i+i+"d\n"+i+"1\n"+i+i+"0\n"+i+"2 0\n"+i, drop(1), add(2))
		reads(t, "d 1\n"+i+"0 2\n"+i+"0", drop(1), add(2))
		reads(t, "d 1 0 2 0\n"+i+idle, drop(1), add(2))
		reads(t, "d 1 0 2 0\n"+idle, drop(1), add(2))
	}
}

// P9.1: every byte from 32 to 126 and the tab may stand in a remark, no other one; wherever it stands.
func TestRemarkBytes(t *testing.T) {
	for b := range 256 {
		if b == '\n' {
			continue
		}
		for _, remark := range []string{"c" + string([]byte{byte(b)}), "c a" + string([]byte{byte(b)}) + "b"} {
			if b >= 32 && b <= 126 || b == 9 {
				reads(t, "1 0\n2\n"+remark+"\n0\n", add(1), add(2))
				reads(t, "1 0\n"+remark, add(1))
			} else {
				refuses(t, remark+"\n1 0\n", 1)
				refuses(t, "1 0\n2\n"+remark+"\n0\n", 3, add(1))
				refuses(t, "1 0\n"+remark, 2, add(1))
			}
		}
	}
}

// P9.1: a remark with another byte: bytes that are no text, runes of several bytes, a carriage return.
func TestRemarkFault(t *testing.T) {
	for _, bad := range []string{"\xc8", "\r", "\x00", "\x7f", "\x80", "\xff", "\xc3\x28", "\xe2\x82", "\xed\xa0\x80", "ü", "€", "\ufffd", "\ufeff", "\u00a0", "\u2028", "\x1b", "\v", "\f", "😀"} {
		refuses(t, "c "+bad+"\n", 1)
		refuses(t, "c"+bad, 1)
		refuses(t, "0\nc"+bad+"\n", 2, add())
		refuses(t, "1 0\n\nc\n2 0 d 3\nc ok\nc x "+bad+" y\n0\n", 6, add(1), add(2))
	}
	// It is none where the line doesn't begin with c.
	refuses(t, "1 0\n c\n", 2, add(1))
	refuses(t, "1 0\n\tc x\n", 2, add(1))
	refuses(t, "1 0 c\n", 1, add(1))
	refuses(t, "1 c\n0\n", 1)
	refuses(t, "C\n", 1)
}

// badWords: words that are none of a literal, 0 and d.
func badWords() []string {
	long := strings.Repeat("1", 100000)
	return []string{
		"x", "D", "dd", "d0", "d1", "0d", "1d", "-d", "a", "p", "nf", "%", "-", "--1", "-1-", "1-", "1-2", "+", "+1", "+0", "-+1", "+-1", "-0", "00", "-00", "01", "-01", "001", "0x1", "0b1", "0o7", "1e2", "1_0", "1.0", "1,", "1.", ".1",
		"1048577", "-1048577", "1048580", "9999999", "10000000", "2147483647", "-2147483648", "4294967296", "4294967297", "-4294967297", "9223372036854775807", "9223372036854775808", "-9223372036854775808", "-9223372036854775809",
		"18446744073709551616", "18446744073709551617", "340282366920938463463374607431768211457", long, "-" + long, strings.Repeat("0", 1000), strings.Repeat("0", 1000) + "1",
		"1\r", "0\r", "\r", "d\r", "\r0", "1\v", "\v", "\f", "1\x00", "\x00", "\x7f", "\x80", "\xff", "1\xff", "\xff1", "0\xc8", "\xed\xa0\x80", "\xe2\x82", "１", "0\u00a0", "\u00a0", "−1", "٣", "\ufeff", "\ufffd", "ü", "d\u2028",
	}
}

// P9.1: a word that can't stand anywhere: where a step begins, behind d, behind a literal, behind a 0; with its line.
func TestReadWord(t *testing.T) {
	for _, w := range badWords() {
		refuses(t, w, 1)
		refuses(t, w+" 0\n", 1)
		refuses(t, "d "+w+" 0\n", 1)
		refuses(t, "1 "+w+" 0\n", 1)
		refuses(t, "1 0 "+w, 1, add(1))
		refuses(t, "1 0\n2 "+w+" 0\n", 2, add(1))
		refuses(t, "1 0 d 2 0\n\nc\n3\n\t"+w+"\t0\n", 5, add(1), drop(2))
		refuses(t, "0 1\n"+w, 2, add())
	}
}

// P9.1: d stands only where a step begins, and once.
func TestReadD(t *testing.T) {
	refuses(t, "1 d 0", 1)
	refuses(t, "d d 0", 1)
	refuses(t, "d\nd 0", 2)
	refuses(t, "d\nc\n\nd\n0", 4)
	refuses(t, "1 0\n2\nd\n0", 3, add(1))
	refuses(t, "d 1 d 0", 1)
	refuses(t, "d 1\nd 2 0", 2)
	refuses(t, "1 0 \ndd 0", 2, add(1))
	reads(t, "1 0 d 1 0 d 2 0 1 0", add(1), drop(1), drop(2), add(1))
}

// P9.1: a step without its 0 at the end: d alone, literals, both; the line is the one behind the last.
func TestReadEnd(t *testing.T) {
	for _, s := range []string{"d", "1", "-2", "1 -2", "d 3", "d 3 -4 "} {
		refuses(t, s, 2)
		refuses(t, s+"\n", 2)
		refuses(t, s+"\n\n", 3)
		refuses(t, s+"\n ", 3)
		refuses(t, s+"\nc\nc 0", 4)
		refuses(t, s+"\nc 0\n\n\t\n", 5)
		refuses(t, "c\n\n1 0 d 2 0\n"+s, 5, add(1), drop(2))
		refuses(t, "0 "+s, 2, add())
		refuses(t, strings.Repeat("\n", 1000)+s, 1002)
	}
	refuses(t, "1\n2\n3\n4", 5)
	refuses(t, "1\n2\n3\n4\n", 5)
}

// P9.1: of several faults the first one counts, word by word and line by line.
func TestReadFirstFault(t *testing.T) {
	refuses(t, "1 x 0\nc\xff\n2 d 0\n3", 1)
	refuses(t, "1 0\nc\xff\n2 d 0\n3", 2, add(1))
	refuses(t, "1 0\nc\n2 d 0\nc\xff\n3", 3, add(1))
	refuses(t, "1 0\nc\n2 0\nc\xff\n3", 4, add(1), add(2))
	refuses(t, "1 0\nc\n2 0\nc\n3", 6, add(1), add(2))
	refuses(t, "1\n\nx\ny", 3)
	refuses(t, "1 0 2 0 3 x 0 4 0\nz", 1, add(1), add(2))
}

// P9.1: example 2 of the chapter.
func TestReadFaultsOfTheChapter(t *testing.T) {
	refuses(t, "1 0\n2 x 0", 2, add(1))
	refuses(t, "1 d 0", 1)
	refuses(t, "1 -2\n", 2)
	refuses(t, "d", 2)
	for _, s := range []string{"1 1048577 0", "-0", "+1 0", "01 0", "1 0\r"} {
		refuses(t, s, 1)
	}
	refuses(t, "1 0 \ndd 0", 2, add(1))
}

// P9.1: texts of many steps, of many lines, and with one long step.
func TestReadLarge(t *testing.T) {
	var long strings.Builder
	var want []int
	for v := 1; v <= api.MaxVar; v++ {
		l := v * (1 - v%2*2)
		long.WriteString(strconv.Itoa(l) + " ")
		want = append(want, l)
	}
	reads(t, long.String()+"0", api.Step{Lits: want})
	refuses(t, long.String(), 2)
	many := strings.Repeat("d 5 0\n\nc\n-6 7 0\n", 100000)
	reads(t, many, slices.Repeat([]api.Step{drop(5), add(-6, 7)}, 100000)...)
	refuses(t, many+"x", 400001, slices.Repeat([]api.Step{drop(5), add(-6, 7)}, 100000)...)
	reads(t, strings.Repeat("c", 1<<20)+"\n1 0", add(1))
	reads(t, strings.Repeat(" \t", 1<<20)+"1 0", add(1))
}
