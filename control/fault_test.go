package control_test

import (
	"testing"

	"depot/api"
)

// unfairs: bytes that no line may hold.
func unfairs() []string {
	out := []string{
		"\x7f", "\xff", "\xfe", "\x80", "\xbf", "\xc3", "\xa9", "\xc0\x80", "\xc0\xaf", "\xc1\xbf", "\xe0\x80\xaf", "\xe2\x82", "\xef\xbf", "\xef", "\xbd", "\xed\xa0\x80", "\xed\xbf\xbf", "\xf0\x80\x80\xaf", "\xf0\x9f\x98", "\xf4\x90\x80\x80", "\xf8\x88\x80\x80\x80", "\xef\xbf\xbd\xef\xbf", "é\xa9", "\r\r",
	}
	for b := range 32 {
		if b != '\t' && b != '\n' {
			out = append(out, string([]byte{byte(b)}))
		}
	}
	return out
}

// P21.1: a line that isn't fair is one that is a fault, of whatever kind it is.
func TestUnfair(t *testing.T) {
	for _, bad := range unfairs() {
		for _, line := range []string{bad, "B: " + bad, "B:" + bad, "B: x" + bad + "y", "B: 2 " + bad, "B" + bad + ": 2", bad + "B: 2", "#" + bad, "# x" + bad, "#x " + bad + " y", " " + bad, bad + " ", "\t" + bad + "\t", " x" + bad, "\tx " + bad + "y"} {
			refuses(t, line, api.ErrText, 1)
			refuses(t, line+"\nC: 3\n", api.ErrText, 1)
			refuses(t, "A: 1\n"+line+"\n", api.ErrText, 2)
			refuses(t, "A: 1\n 2\n"+line+"\n 3\nC: 3\n", api.ErrText, 3)
			refuses(t, "\n#\nA: 1\n \n"+line, api.ErrText, 5)
		}
	}
}

// P21.1: one line's faults are told in turn: ErrText, ErrField, ErrTwice.
func TestFaultsOfALine(t *testing.T) {
	for _, bad := range unfairs() {
		for _, line := range []string{"A " + bad, ":" + bad, "-A: " + bad, "A : 1" + bad, " " + bad, "\tA: 1" + bad, bad + ":", "é:" + bad} {
			refuses(t, line, api.ErrText, 1)
			refuses(t, "B: 1\n\n"+line, api.ErrText, 3)
		}
		refuses(t, "A: 1\na: "+bad, api.ErrText, 2)
		refuses(t, "A: 1\nA:"+bad+"\n", api.ErrText, 2)
	}
	refuses(t, "A: 1\nA : 2\n", api.ErrField, 2)
	refuses(t, "A: 1\nA\n", api.ErrField, 2)
	refuses(t, "-A: 1\n-A: 1\n", api.ErrField, 1)
}

// P21.1: of several lines the first with a fault is told, whatever the faults.
func TestFirstFault(t *testing.T) {
	faults := []struct {
		line string
		e    api.Errno
	}{
		{"A: 2", api.ErrTwice}, {"a:", api.ErrTwice}, {"B", api.ErrField}, {":", api.ErrField}, {"-", api.ErrField}, {"B : 2", api.ErrField},
		{"\xff", api.ErrText}, {"#\x00", api.ErrText}, {" \x7f", api.ErrText}, {"B: \xc3", api.ErrText}, {"A: 1\r", api.ErrText},
	}
	for _, one := range faults {
		for _, other := range faults {
			refuses(t, "A: 1\n"+one.line+"\n"+other.line+"\n", one.e, 2)
			refuses(t, "C: 1\n\n#\nA: 1\n x\n#\n"+one.line+"\n 2\n"+other.line, one.e, 7)
			refuses(t, "A: 1\n"+one.line+"\nB: 2\n\nA: 1\n"+other.line+"\n", one.e, 2)
			refuses(t, "A: 1\n\n x\n"+one.line+"\n"+other.line+"\n", api.ErrField, 3)
		}
	}
}

// P21.1: what is fair, though it may look as if it weren't.
func TestFair(t *testing.T) {
	for _, good := range []string{"\ufffd", "\ufffd\ufffd", "x\ufffd", "\u0080", "\u009f", "\u0085", "\u00a0", "é", "\u2028", "\ufeff", "\ufffe", "\uffff", "\ud7ff", "\ue000", "\U0001f600", "\U0010ffff", "~", "a\tb", "!"} {
		reads(t, "A: "+good+"\n#"+good+"\n "+good+"\n", stanza(1, "A", good+"\n"+good))
		reads(t, "#"+good)
	}
	// A line feed parts what would be one rune.
	refuses(t, "A: \xc3\n\xa9: 1\n", api.ErrText, 1)
	refuses(t, "A: 1\n \xc3\n \xa9\n", api.ErrText, 2)
}

// P21.1: of all short texts of these pieces the answer is that of the document's words.
func TestReadShortAsWords(t *testing.T) {
	seen := map[api.Errno]int{}
	for _, s := range texts(6, "A", "a", ":", " ", "\n", "#", "-", "\xff") {
		seen[readsAsWords(t, s)]++
	}
	for _, s := range texts(7, "A:", "a:", "\n", "\n ", "#", "\t") {
		seen[readsAsWords(t, s)]++
	}
	for _, e := range []api.Errno{api.OK, api.ErrText, api.ErrField, api.ErrTwice} {
		if seen[e] < 100 {
			t.Errorf("the error %d only %d times", e, seen[e])
		}
	}
}

// P21.1: of all pairs of bytes, at several places, too.
func TestReadBytesAsWords(t *testing.T) {
	for a := range 256 {
		for b := range 256 {
			two := string([]byte{byte(a), byte(b)})
			for _, around := range [][2]string{{"", ""}, {"", ":1\nA:2"}, {"A:", ""}, {"#", "\n"}, {"A:1\n", "\n"}, {"A:1\n ", "B:"}, {"A", ":1\n"}, {"A:1\n", ":2"}, {"A:1\n\xef", "\n"}} {
				readsAsWords(t, around[0]+two+around[1])
			}
		}
	}
}

// P21.1: of many drawn texts, whole ones and spoilt ones, too.
func TestReadDrawnAsWords(t *testing.T) {
	draw := drawn(1)
	seen := map[api.Errno]int{}
	for range 30000 {
		s := draw.text()
		if readsAsWords(t, s) != api.OK {
			t.Fatalf("%q was to have no fault", s)
		}
		seen[readsAsWords(t, draw.spoilt(s))]++
	}
	for _, e := range []api.Errno{api.OK, api.ErrText, api.ErrField, api.ErrTwice} {
		if seen[e] < 100 {
			t.Errorf("the error %d only %d times", e, seen[e])
		}
	}
}
