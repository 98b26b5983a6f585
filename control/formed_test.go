package control_test

import (
	"strconv"
	"strings"
	"testing"

	"depot/api"
	"depot/control"
)

// P21.2, P21.3: the chapter's examples.
func TestFormedExamples(t *testing.T) {
	formed(t, "A:\nB: x\n y\n\nC: : z\n", stanza(1, "A", "", "B", "x\ny"), stanza(5, "C", ": z"))
	formed(t, "A:\n b\n", stanza(1, "A", "\nb"))
	for _, value := range []string{" x", "x\n", "x\n\ny", "x\r"} {
		unformed(t, stanza(1, "A", value))
	}
	unformed(t, stanza(1))
	unformed(t, stanza(1, "A", "1", "a", "2"))
	formed(t, "")
	formed(t, "", []api.Stanza{}...)
	// The stanzas that the examples of Read answer.
	formed(t, "Package: a\nVersion: 1.0\nDepends: b,\n c\n", stanza(1, "Package", "a", "Version", "1.0", "Depends", "b,\nc"))
	formed(t, "A: 1\n\nB:\n", stanza(3, "A", "1"), stanza(5, "B", ""))
	formed(t, "A: 1\n\na: 2\n", stanza(1, "A", "1"), stanza(3, "a", "2"))
	formed(t, "A: 1\n 2\n", stanza(1, "A", "1\n2"))
}

// P21.2: one stanza without fields is enough, wherever it stands.
func TestNoFields(t *testing.T) {
	one := stanza(1, "A", "1")
	unformed(t, api.Stanza{})
	unformed(t, api.Stanza{Line: 3, Fields: []api.Field{}})
	unformed(t, stanza(1), one)
	unformed(t, one, stanza(1))
	unformed(t, one, stanza(2), one)
	formed(t, "A: 1\n\nA: 1\n\nA: 1\n", one, one, one)
}

// P21.2: Line counts for nothing.
func TestLineCountsNot(t *testing.T) {
	for _, line := range []int{0, -1, 1, 7, -1 << 63, 1<<63 - 1} {
		formed(t, "A: 1\n\nA: 2\n", stanza(line, "A", "1"), stanza(line, "A", "2"))
		formed(t, "A: 1\n\nA: 2\n", stanza(1, "A", "1"), stanza(line, "A", "2"))
		unformed(t, stanza(line, "A", "1", "A", "2"))
		unformed(t, stanza(line))
	}
}

// P21.2: which names may be: of each byte, as the first one, behind that, alone.
func TestFormedNames(t *testing.T) {
	for b := range 256 {
		c := string([]byte{byte(b)})
		may := b > 32 && b < 127 && b != ':'
		for _, name := range []string{c, c + "x", "x" + c, "x" + c + "y"} {
			if may && !(name[0] == '#' || name[0] == '-') {
				formed(t, name+": 1\n", stanza(1, name, "1"))
				formed(t, "other:\n"+name+":\n", stanza(1, "other", "", name, ""))
			} else {
				unformed(t, stanza(1, name, "1"))
				unformed(t, stanza(1, "B", "", name, "", "C", ""))
				unformed(t, stanza(1, "B", ""), stanza(1, "B", "", name, ""))
			}
		}
	}
	for _, name := range []string{"", " ", "A B", "é", "\ufffd", "\u00a0", "Aé", "A\n", "\nA", "A:", ":A", "A:B", " A", "A ", "\ufeffA", "\xff"} {
		unformed(t, stanza(1, name, ""))
		unformed(t, stanza(1, "B", ""), stanza(2, "B", "", name, ""))
	}
}

// P21.2: no two names of one stanza are alike; those of two may be.
func TestFormedTwice(t *testing.T) {
	for b := byte('A'); b <= 'Z'; b++ {
		capital, small := string([]byte{b}), string([]byte{b + 32})
		for _, pair := range [][2]string{{capital, small}, {small, capital}, {small, small}, {capital, capital}, {"x" + capital + "-", "X" + small + "-"}} {
			unformed(t, stanza(1, pair[0], "1", pair[1], "1"))
			unformed(t, stanza(1, "y0", ""), stanza(1, pair[0], "1", "y0", "", pair[1], "2"))
			unformed(t, stanza(1, pair[0], ""), stanza(1, pair[0], "", "y0", "", pair[1], "2"))
			formed(t, pair[0]+": 1\n\n"+pair[1]+": 2\n", stanza(1, pair[0], "1"), stanza(1, pair[1], "2"))
		}
	}
	formed(t, "@: 1\n`: 2\n[: 3\n{: 4\n^: 5\n~: 6\n", stanza(1, "@", "1", "`", "2", "[", "3", "{", "4", "^", "5", "~", "6"))
	formed(t, "A:\nAA:\naaa:\n", stanza(1, "A", "", "AA", "", "aaa", ""))
}

// wantValue: the value may be one, or may not, as the only one and among others.
func wantValue(t *testing.T, value string, may bool) {
	t.Helper()
	if !may {
		unformed(t, stanza(1, "A", value))
		unformed(t, stanza(1, "B", "", "A", value, "C", "1"))
		unformed(t, stanza(1, "B", "2"), stanza(3, "A", value))
		return
	}
	text := plainWrite([]api.Stanza{stanza(1, "A", value)})
	formed(t, text, stanza(1, "A", value))
	formed(t, "B:\n"+text+"C: 1\n", stanza(1, "B", "", "A", value, "C", "1"))
	formed(t, "B: 2\n\n"+text, stanza(1, "B", "2"), stanza(3, "A", value))
}

// P21.2: which bytes may stand in a value, in its first piece and in a further one.
func TestFormedValues(t *testing.T) {
	for b := range 256 {
		c := string([]byte{byte(b)})
		may := b >= 32 && b < 127 || b == '\t' || b == '\n'
		for _, value := range []string{"x" + c + "y", "\nx" + c + "y", "x\ny" + c + "z", "x\ny\nz" + c + "z"} {
			wantValue(t, value, may)
		}
		blank := b == ' ' || b == '\t'
		for _, value := range []string{c + "y", "x\n" + c + "y", "x\ny\n" + c} {
			wantValue(t, value, may && !blank && (b != '\n' || value == c+"y"))
		}
		for _, value := range []string{"x" + c, "\nx" + c, "x" + c + "\ny", c, "\n" + c} {
			wantValue(t, value, may && !blank && b != '\n')
		}
	}
}

// P21.2: bytes that are no UTF-8, and runes that look as if they weren't.
func TestFormedRunes(t *testing.T) {
	for _, bad := range unfairs() {
		for _, value := range []string{bad, "x" + bad, bad + "x", "\n" + bad, "x\ny" + bad, "x" + bad + "\ny"} {
			wantValue(t, value, false)
		}
	}
	// Neither of these two pieces is UTF-8, nor are both with the line feed between.
	wantValue(t, "x\xc3\n\xa9", false)
	for _, good := range []string{"\ufffd", "\u0080", "\u0085", "\u00a0", "é", "\u2028", "\ufeff", "\uffff", "\U0010ffff", "#", "-", ":", "# x", "A: 1", "x \t y"} {
		for _, value := range []string{good, "x\n" + good, "\n" + good, good + "\nx", "x\n" + good + "\ny"} {
			wantValue(t, value, true)
		}
	}
}

// P21.2: pieces that aren't trimmed, and empty ones, at each place.
func TestPieces(t *testing.T) {
	for n := 1; n <= 4; n++ {
		for at := range n {
			for _, piece := range []string{"", " ", "\t", " x", "x ", "\tx", "x\t", " \t", "  x"} {
				pieces := strings.Split(strings.Repeat("x\n", n-1)+"x", "\n")
				pieces[at] = piece
				wantValue(t, strings.Join(pieces, "\n"), piece == "" && at == 0)
			}
		}
	}
	for _, value := range []string{"\n", "\n\n", "\n\nx", "\nx\n", "\nx\n\ny", "x\ny\n", "x\n\n"} {
		wantValue(t, value, false)
	}
	for _, value := range []string{"", "\nx", "\nx\ny", "x\ny\nz"} {
		wantValue(t, value, true)
	}
}

// P21.2, P21.3: of all short values and names the answers are those of the document's words.
func TestFormedShortAsWords(t *testing.T) {
	for _, s := range texts(6, "x", "\n", " ", "\t", "\x00", "\xff") {
		formedAsWords(t, stanza(1, "A", s))
	}
	names := texts(3, "A", "a", "#", "-", ":", " ", "\n", "é")
	for _, one := range names {
		for _, other := range names[:100] {
			formedAsWords(t, stanza(1, one, "1", other, "2"))
			formedAsWords(t, stanza(1, one, "1"), stanza(1, other, "2"))
		}
	}
}

// P21.2, P21.3: of drawn stanzas, whole ones and spoilt ones, too.
func TestFormedDrawnAsWords(t *testing.T) {
	draw := drawn(2)
	seen := map[bool]int{}
	for range 30000 {
		l := draw.stanzas()
		if !formedAsWords(t, l...) {
			t.Fatalf("%s was to be Formed", shown(l))
		}
		if len(l) == 0 {
			continue
		}
		at := &l[draw.Intn(len(l))]
		f := &at.Fields[draw.Intn(len(at.Fields))]
		switch draw.Intn(3) {
		case 0:
			f.Name = draw.spoilt(f.Name)
		case 1:
			f.Value = draw.spoilt(f.Value)
		default:
			at.Fields = append(at.Fields, api.Field{Name: draw.pick("a", "B", "package", "~", "z"), Value: draw.value()})
		}
		seen[formedAsWords(t, l...)]++
	}
	if seen[true] < 1000 || seen[false] < 1000 {
		t.Errorf("Formed or not: %v", seen)
	}
}

// P21.2, P21.3: many fields, many stanzas, a value of many pieces.
func TestFormedLarge(t *testing.T) {
	const n = 200000
	one, many := stanza(1, "A", strings.Repeat("\nx", n)), stanza(1)
	var stanzas []api.Stanza
	var text strings.Builder
	for k := range n {
		name := "F" + strconv.Itoa(k)
		many.Fields = append(many.Fields, api.Field{Name: name, Value: "1"})
		stanzas = append(stanzas, stanza(0, "F", "1"))
		text.WriteString(name + ": 1\n")
	}
	formed(t, "A:\n"+strings.Repeat(" x\n", n), one)
	formed(t, text.String(), many)
	formed(t, strings.Repeat("F: 1\n\n", n-1)+"F: 1\n", stanzas...)
	many.Fields[n-1].Name = "f0"
	unformed(t, many)
	stanzas[n-1].Fields = nil
	if control.Formed(stanzas) {
		t.Error("the last stanza has no fields")
	}
}
