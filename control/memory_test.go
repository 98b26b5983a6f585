package control_test

import (
	"slices"
	"strings"
	"sync"
	"testing"
	"unsafe"

	"depot/api"
	"depot/control"
)

// whole: the list with all the room behind its end.
func whole[E any](list []E) []E { return list[:cap(list)] }

// some has stanzas and fields of several kinds.
const some = "A: 1\nB:\n 2\n#\n 3\n\n#\nC:4\nd: 5\nE:6\n\nA:\nb: 7\nC:\nD:\ne: 8\n"

func someStanzas() []api.Stanza {
	return []api.Stanza{stanza(1, "A", "1", "B", "\n2\n3"), stanza(8, "C", "4", "d", "5", "E", "6"), stanza(12, "A", "", "b", "7", "C", "", "D", "", "e", "8")}
}

// someText: Write of someStanzas.
const someText = "A: 1\nB:\n 2\n 3\n\nC: 4\nd: 5\nE: 6\n\nA:\nb: 7\nC:\nD:\ne: 8\n"

// roomy: the stanzas, in lists that have room behind their ends with stanzas and fields in it.
func roomy(l []api.Stanza) []api.Stanza {
	out := slices.Clone(l)
	for k := range out {
		out[k].Fields = append(slices.Clone(out[k].Fields), api.Field{Name: "behind", Value: "the end"}, api.Field{Name: "", Value: "\n"})[:len(l[k].Fields)]
	}
	return append(out, stanza(9, "behind", "all"), stanza(0))[:len(l)]
}

// spoil writes all over a list of fields and the room behind its end, and lets it grow.
func spoil(l []api.Field) {
	for k := range whole(l) {
		whole(l)[k] = api.Field{Name: "spoilt", Value: "spoilt"}
	}
	for range 20 {
		l = append(l, api.Field{Name: "grown"})
	}
}

// Memory, P21.6: what is handed in is only read, nor are the places behind it written; of what is refused, too.
func TestArgumentsStay(t *testing.T) {
	for _, l := range [][]api.Stanza{nil, someStanzas(), {stanza(1)}, {stanza(1, "A", "1", "a", "2")}, {stanza(1, "A", " x\n\n"), stanza(2, "é", "\xff")}} {
		in := roomy(l)
		was := roomy(l)
		control.Formed(in)
		control.Write(in)
		for _, s := range in {
			control.Get(s, "A")
			control.Get(s, "none")
		}
		if !equal(whole(in)[:len(l)+2], whole(was)[:len(l)+2]) {
			t.Errorf("written into what came in: %s, was %s", shown(in), shown(was))
		}
		for k, s := range in {
			if got, want := s.Fields[:len(s.Fields)+2], was[k].Fields[:len(s.Fields)+2]; !slices.Equal(got, want) {
				t.Errorf("written behind the fields of what came in: %q, was %q", got, want)
			}
		}
	}
}

// Memory: nobody remembers what came in: written over, it changes no later answer.
func TestArgumentsAreForgotten(t *testing.T) {
	l := someStanzas()
	formed(t, someText, l...)
	l[0].Fields[0].Value = "9"
	formed(t, strings.Replace(someText, "1", "9", 1), l...)
	l[0].Fields[1].Name = "a"
	unformed(t, l...)
	gets(t, l[0], "a", "9")
	l[0].Fields[0].Name = "b"
	gets(t, l[0], "a", "\n2\n3")
	formed(t, someText, someStanzas()...)
}

// Memory: a list without elements is as good as nil, coming in.
func TestEmptyIsNil(t *testing.T) {
	formed(t, "", make([]api.Stanza, 0, 3)...)
	unformed(t, api.Stanza{Fields: nil})
	unformed(t, api.Stanza{Fields: make([]api.Field, 0, 3)})
	lacks(t, api.Stanza{Fields: make([]api.Field, 0, 3)}, "")
}

// Memory, P21.6: what Read answers is the caller's, with the room behind its ends; the next call answers the same.
func TestAnswersAreTheCallers(t *testing.T) {
	one, _, _ := control.Read(some)
	other, _, _ := control.Read(some)
	for _, s := range one {
		spoil(s.Fields)
	}
	for k := range whole(one) {
		whole(one)[k] = stanza(-1, "spoilt", "spoilt")
	}
	if !equal(other, someStanzas()) {
		t.Errorf("another answer spoilt: %s", shown(other))
	}
	reads(t, some, someStanzas()...)
}

// Memory: no two lists of one answer share anything, nor the room behind their ends.
func TestListsAreApart(t *testing.T) {
	for _, s := range []string{some, "A:\n\nB:\n\nC:\n", "A:\nB:\nC:\n\nA:\nB:\nC:\n\n", strings.Repeat("A:\nB:\nC:\nD:\nE:\n\nA:\n\n", 9)} {
		want := readOf(t, s)
		for k := range want {
			got := readOf(t, s)
			spoil(got[k].Fields)
			got[k] = want[k]
			if !equal(got, want) {
				t.Errorf("the fields %d of %q spoilt: %s", k, s, shown(got))
			}
		}
	}
}

// Memory: what is written into an answer isn't seen in what it was made of, nor the other way about.
func TestReadStandsAlone(t *testing.T) {
	l := readOf(t, some)
	was := cloned(l)
	text, _ := control.Write(l)
	l[0].Fields[0].Value = "spoilt"
	if text != someText {
		t.Errorf("the text spoilt: %q", text)
	}
	l[0].Fields[0].Value = was[0].Fields[0].Value
	if !equal(l, was) {
		t.Errorf("spoilt: %s", shown(l))
	}
}

// P21.6: no piece of an answer lies in the text that came in, which it would hold on to.
func TestPiecesAreNew(t *testing.T) {
	long := strings.Repeat("x", 100)
	within := func(piece, s string) bool {
		at, p := uintptr(unsafe.Pointer(unsafe.StringData(s))), uintptr(unsafe.Pointer(unsafe.StringData(piece)))
		return piece != "" && at <= p && p < at+uintptr(len(s))
	}
	s := long + ": " + long + "\nA: " + long + "\n " + long + "\n\nb:" + long
	for _, st := range readOf(t, s) {
		for _, f := range st.Fields {
			if within(f.Name, s) || within(f.Value, s) {
				t.Errorf("%q and %q: in the text that came in", f.Name, f.Value)
			}
		}
	}
	in := stanza(1, long, long+long)
	if v, _ := control.Get(in, long); within(v, in.Fields[0].Value) {
		t.Error("Get's value is that which came in")
	}
	text, _ := control.Write([]api.Stanza{in})
	if within(text, in.Fields[0].Name) || within(text, in.Fields[0].Value) {
		t.Error("Write's text lies in what came in")
	}
}

// answersAgain: each call answers what it always does; said once, if it doesn't.
func answersAgain(t *testing.T) {
	t.Helper()
	if t.Failed() {
		return
	}
	l := someStanzas()
	reads(t, some, l...)
	formed(t, someText, l...)
	gets(t, l[2], "B", "7")
	lacks(t, l[2], "f")
	refuses(t, some+"E: 9\n", api.ErrTwice, 17)
	refuses(t, some+"E\n", api.ErrField, 17)
	refuses(t, some+"#\xff\n", api.ErrText, 17)
	unformed(t, append(l, stanza(1, "A", "", "a", ""))...)
}

// Sameness: the same calls answer the same, refusals too.
func TestSameAgain(t *testing.T) {
	for range 20 {
		answersAgain(t)
	}
}

// Sameness: so they do while others call.
func TestSameBesideOneAnother(t *testing.T) {
	var group sync.WaitGroup
	for range 8 {
		group.Go(func() {
			for range 200 {
				answersAgain(t)
			}
		})
	}
	group.Wait()
}
