package control_test

import (
	"fmt"
	"slices"
	"strings"
	"testing"

	"depot/api"
	"depot/control"
)

// stanza: a stanza of names and values, in turns.
func stanza(line int, l ...string) api.Stanza {
	out := api.Stanza{Line: line}
	for pair := range slices.Chunk(l, 2) {
		out.Fields = append(out.Fields, api.Field{Name: pair[0], Value: pair[1]})
	}
	return out
}

// equal: are they the same, nil or without elements?
func equal(a, b []api.Stanza) bool {
	return slices.EqualFunc(a, b, func(x, y api.Stanza) bool {
		return x.Line == y.Line && slices.Equal(x.Fields, y.Fields)
	})
}

// shown: the stanzas for people to read, the first ones of very many.
func shown(l []api.Stanza) string {
	var out strings.Builder
	for _, s := range l {
		fmt.Fprintf(&out, "[%d:", s.Line)
		for _, f := range s.Fields {
			fmt.Fprintf(&out, " %.100q %.100q", f.Name, f.Value)
			if out.Len() > 1000 {
				return out.String() + " .."
			}
		}
		out.WriteString("]")
	}
	return out.String()
}

// unplaced: the stanzas without their Lines.
func unplaced(l []api.Stanza) []api.Stanza {
	var out []api.Stanza
	for _, s := range l {
		out = append(out, api.Stanza{Fields: s.Fields})
	}
	return out
}

// cloned: the stanzas once more, with nothing in common.
func cloned(l []api.Stanza) []api.Stanza {
	out := slices.Clone(l)
	for k := range out {
		out[k].Fields = slices.Clone(out[k].Fields)
	}
	return out
}

// reads: the text has these stanzas.
func reads(t *testing.T, s string, want ...api.Stanza) {
	t.Helper()
	if l, e, line := control.Read(s); !equal(l, want) || e != api.OK || line != 0 {
		t.Errorf("Read(%.200q) = %s, %d, %d, not %s", s, shown(l), e, line, shown(want))
	}
}

// refuses: the text has this fault there, and nothing else is answered.
func refuses(t *testing.T, s string, want api.Errno, at int) {
	t.Helper()
	l, e, line := control.Read(s)
	if e != want || line != at {
		t.Errorf("Read(%.200q): error %d in line %d, not %d in line %d", s, e, line, want, at)
	}
	if len(l) != 0 {
		t.Errorf("Read(%.200q): %s beside an error", s, shown(l))
	}
}

// readsAsWords: what Read answers is what the document's words say; the error.
func readsAsWords(t *testing.T, s string) api.Errno {
	t.Helper()
	want, e, line := plainRead(s)
	if e == api.OK {
		reads(t, s, want...)
	} else {
		refuses(t, s, e, line)
	}
	if t.Failed() {
		t.FailNow()
	}
	return e
}

// formed: the stanzas are Formed, and have this text.
func formed(t *testing.T, want string, l ...api.Stanza) {
	t.Helper()
	if !control.Formed(l) {
		t.Errorf("%s isn't Formed", shown(l))
	}
	if s, e := control.Write(l); s != want || e != api.OK {
		t.Errorf("Write(%s) = %.400q, %d, not %.400q", shown(l), s, e, want)
	}
}

// unformed: the stanzas aren't Formed, and have no text.
func unformed(t *testing.T, l ...api.Stanza) {
	t.Helper()
	if control.Formed(l) {
		t.Errorf("%s is Formed", shown(l))
	}
	if s, e := control.Write(l); s != "" || e != api.ErrShape {
		t.Errorf("Write(%s) = %.400q, %d", shown(l), s, e)
	}
}

// formedAsWords: whether they are Formed, and their text, is what the document's words say; whether they are.
func formedAsWords(t *testing.T, l ...api.Stanza) bool {
	t.Helper()
	ok := plainFormed(l)
	if ok {
		formed(t, plainWrite(l), l...)
	} else {
		unformed(t, l...)
	}
	if t.Failed() {
		t.FailNow()
	}
	return ok
}

// gets: the stanza's field of that name has this value.
func gets(t *testing.T, s api.Stanza, name, want string) {
	t.Helper()
	if v, ok := control.Get(s, name); v != want || !ok {
		t.Errorf("Get(%.400q, %q) = %q, %v, not %q", s.Fields, name, v, ok, want)
	}
}

// lacks: the stanza has no field of that name.
func lacks(t *testing.T, s api.Stanza, name string) {
	t.Helper()
	if v, ok := control.Get(s, name); v != "" || ok {
		t.Errorf("Get(%.400q, %q) = %q, %v", s.Fields, name, v, ok)
	}
}

// texts: all texts of up to so many of the pieces.
func texts(most int, pieces ...string) []string {
	out := []string{""}
	for from := 0; most > 0; most-- {
		to := len(out)
		for _, s := range out[from:to] {
			for _, p := range pieces {
				out = append(out, s+p)
			}
		}
		from = to
	}
	return out
}

// drawer draws things by a rule of its own, so that they are the same at every run.
type drawer struct{ state uint64 }

func drawn(seed uint64) *drawer { return &drawer{seed} }

// Intn: a number from 0 to n - 1.
func (d *drawer) Intn(n int) int {
	d.state = d.state*6364136223846793005 + 1442695040888963407
	return int(d.state >> 33 % uint64(n))
}

// pick: one of them.
func (d *drawer) pick(of ...string) string { return of[d.Intn(len(of))] }

// piece: of a value, trimmed; it may be empty.
func (d *drawer) piece() string {
	return plainTrim(d.pick("", "a", "b,", "#", "-", ":", "A: 1", "é", "\ufffd") + d.pick("", " ", "\t", ": ", "  # ") + d.pick("", "x", "(>= 1)", "#", ":", "\u0080", "\U0010ffff", "~"))
}

// value: one that is formed.
func (d *drawer) value() string {
	out := d.piece()
	for range d.Intn(4) {
		if piece := d.piece(); piece != "" {
			out += "\n" + piece
		}
	}
	return out
}

// stanzas: some that are formed.
func (d *drawer) stanzas() []api.Stanza {
	var out []api.Stanza
	for range d.Intn(4) {
		s := api.Stanza{Line: d.Intn(9) - 3}
		for len(s.Fields) == 0 || d.Intn(3) > 0 {
			name := d.pick("A", "a", "B", "Package", "PACKAGE", "Pre-Depends", "~", "!#-", "@", "`", "[", "{", "x1", "/")
			if _, twice := plainHas(s, name); !twice {
				s.Fields = append(s.Fields, api.Field{Name: name, Value: d.value()})
			}
		}
		out = append(out, s)
	}
	return out
}

// remark: one, with its line feed.
func (d *drawer) remark() string {
	return d.pick("#", "# ", "#A: 1", "# x", "##", "#\t-", "#:", "# é\ufffd") + "\n"
}

// gap: one, with its line feed.
func (d *drawer) gap() string { return d.pick("", "", " ", "\t", " \t ", "    ") + "\n" }

// blank: what may stand around a value.
func (d *drawer) blank() string { return d.pick("", " ", "\t", "  ", " \t") }

// text: stanzas as a text, with blanks, remarks and gaps in it.
func (d *drawer) text() string {
	out := d.idle()
	for k, s := range d.stanzas() {
		if k > 0 {
			out += d.gap() + d.idle()
		}
		for _, f := range s.Fields {
			out += f.Name + ":" + d.blank() + strings.ReplaceAll(f.Value, "\n", "\n"+d.pick("", d.remark())+d.pick(" ", "\t")+d.blank()) + d.blank() + "\n"
			out += d.pick("", d.remark())
		}
	}
	out += d.idle()
	if d.Intn(3) == 0 {
		out = strings.TrimSuffix(out, "\n")
	}
	return out
}

// idle: some gaps and remarks, or none.
func (d *drawer) idle() string {
	out := ""
	for range d.Intn(3) {
		out += d.pick(d.gap(), d.remark())
	}
	return out
}

// spoilt: the text with some bytes of it changed, taken out or put in.
func (d *drawer) spoilt(s string) string {
	for range d.Intn(4) {
		k := d.Intn(len(s) + 1)
		put := d.pick("\n", "\n", " ", "\t", ":", "#", "-", "a", "A", "\r", "\x00", "\x1f", "\x7f", "\xff", "\xc3", "\xa9", "é", "\ufffd", "\nA:", "\n~:\n", "")
		s = s[:k] + put + s[min(len(s), k+d.Intn(2)):]
	}
	return s
}
