package control_test

import (
	"strings"
	"testing"

	"depot/api"
	"depot/control"
)

// back: Read of Write of the stanzas is themselves, but for Line.
func back(t *testing.T, l []api.Stanza) {
	t.Helper()
	s, e := control.Write(l)
	if e != api.OK {
		t.Fatalf("Write(%s): error %d", shown(l), e)
	}
	got, e, line := control.Read(s)
	if !equal(unplaced(got), unplaced(l)) || e != api.OK || line != 0 {
		t.Fatalf("Read(%q) = %s, %d, %d, not %s", s, shown(got), e, line, shown(l))
	}
	again, e := control.Write(got)
	if again != s || e != api.OK {
		t.Fatalf("Write(%s) = %q, %d, not %q", shown(got), again, e, s)
	}
}

// readOf: Read of a text without a fault.
func readOf(t *testing.T, s string) []api.Stanza {
	t.Helper()
	l, e, _ := control.Read(s)
	if e != api.OK {
		t.Fatalf("Read(%q): error %d", s, e)
	}
	return l
}

// P21.4, P10: Read of Write, of all short stanzas and of drawn ones.
func TestThereAndBack(t *testing.T) {
	back(t, nil)
	var short []api.Stanza
	for _, value := range texts(5, "x", "\n", " ", "#", ":", "\t") {
		for _, s := range []api.Stanza{stanza(1, "A", value), stanza(1, "A", "1", "~", value), stanza(1, "A", value, "-", "2")} {
			if control.Formed([]api.Stanza{s}) {
				back(t, []api.Stanza{s})
				back(t, []api.Stanza{s, stanza(0, "A", "")})
				short = append(short, s)
			}
		}
	}
	if len(short) < 1000 {
		t.Errorf("only %d are formed", len(short))
	}
	back(t, short)
	draw := drawn(4)
	for range 20000 {
		back(t, draw.stanzas())
	}
}

// P21.4, P10: what Read answers is Formed, and Write of it reads as the same; of all short texts and of drawn ones.
func TestBackAndThere(t *testing.T) {
	read := 0
	check := func(s string) {
		l, e, _ := control.Read(s)
		if e != api.OK {
			return
		}
		read++
		if !control.Formed(l) {
			t.Fatalf("Read(%q) = %s isn't Formed", s, shown(l))
		}
		back(t, l)
	}
	for _, s := range texts(6, "A:", "b:", "x", "\n", " ", "#", "\t") {
		check(s)
	}
	draw := drawn(5)
	for range 20000 {
		s := draw.text()
		check(s)
		check(draw.spoilt(s))
	}
	if read < 25000 {
		t.Errorf("only %d were read", read)
	}
}

// P21.4: remarks put in anywhere change nothing but Line.
func TestRemarksPutIn(t *testing.T) {
	draw := drawn(6)
	for range 5000 {
		s := draw.text()
		lines := strings.SplitAfter(s, "\n")
		if lines[len(lines)-1] != "" {
			lines[len(lines)-1] += "\n"
		}
		want := unplaced(readOf(t, s))
		everywhere := ""
		for k := range lines {
			remark := draw.remark()
			put := strings.Join(lines[:k], "") + remark + strings.Join(lines[k:], "")
			if got := unplaced(readOf(t, put)); !equal(got, want) {
				t.Fatalf("Read(%q) = %s, not %s", put, shown(got), shown(want))
			}
			everywhere += remark + lines[k]
		}
		everywhere += draw.remark()
		if got := unplaced(readOf(t, everywhere)); !equal(got, want) {
			t.Fatalf("Read(%q) = %s, not %s", everywhere, shown(got), shown(want))
		}
	}
}

// P21.4: more gaps where one stands, ahead of all and behind all change nothing but Line.
func TestGapsPutIn(t *testing.T) {
	draw := drawn(7)
	for range 5000 {
		s := draw.text()
		want := unplaced(readOf(t, s))
		more := draw.gap() + draw.gap()
		for _, line := range plainLines(s) {
			more += line + "\n"
			if plainTrim(line) == "" {
				more += strings.Repeat(draw.gap(), draw.Intn(3))
			}
		}
		more += draw.gap() + draw.pick("", draw.gap(), " ", "\t")
		if got := unplaced(readOf(t, more)); !equal(got, want) {
			t.Fatalf("Read(%q) = %s, not %s", more, shown(got), shown(want))
		}
	}
}

// P21.4: and Line goes on by as many lines as stand ahead.
func TestLinesPutIn(t *testing.T) {
	draw := drawn(8)
	for n := range 200 {
		s := draw.text()
		l := readOf(t, s)
		ahead := ""
		for range n {
			ahead += draw.pick(draw.gap(), draw.remark())
		}
		for k := range l {
			l[k].Line += n
		}
		reads(t, ahead+s, l...)
	}
}
