package relation_test

import (
	"slices"
	"strings"
	"testing"

	"depot/api"
	"depot/relation"
)

// rel: a relation of a name alone, or of a name, an operator and a version.
func rel(l ...string) api.Rel {
	if len(l) == 1 {
		return api.Rel{Name: l[0]}
	}
	for op := 1; op <= 5; op++ {
		if signOf(op) == l[1] {
			return api.Rel{Name: l[0], Op: op, Version: l[2]}
		}
	}
	panic("no operator: " + l[1])
}

// list: a list of alternatives.
func list(l ...api.Rel) []api.Rel { return l }

// lists: lists of one alternative each.
func lists(l []api.Rel) [][]api.Rel {
	var out [][]api.Rel
	for _, r := range l {
		out = append(out, []api.Rel{r})
	}
	return out
}

// firsts: the first relation of each list.
func firsts(l [][]api.Rel) []api.Rel {
	var out []api.Rel
	for _, list := range l {
		out = append(out, list[0])
	}
	return out
}

// single: has each list one alternative?
func single(l [][]api.Rel) bool {
	return !slices.ContainsFunc(l, func(list []api.Rel) bool { return len(list) != 1 })
}

// equal: are they the same, nil or without elements?
func equal(a, b [][]api.Rel) bool {
	return slices.EqualFunc(a, b, func(x, y []api.Rel) bool { return slices.Equal(x, y) })
}

// cloned: the lists once more, with nothing in common.
func cloned(l [][]api.Rel) [][]api.Rel {
	out := slices.Clone(l)
	for k := range out {
		out[k] = slices.Clone(out[k])
	}
	return out
}

// few: the first ones of very many, for people to read.
func few[E any](l []E) []E { return l[:min(len(l), 8)] }

// reads: the text has these lists of alternatives; ReadList answers them too, if each has one.
func reads(t *testing.T, s string, want ...[]api.Rel) {
	t.Helper()
	if l, e, at := relation.Read(s); !equal(l, want) || e != api.OK || at != 0 {
		t.Errorf("Read(%.200q) = %v, %d, %d, not %v", s, few(l), e, at, few(want))
	}
	if !single(want) {
		return
	}
	if l, e, at := relation.ReadList(s); !slices.Equal(l, firsts(want)) || e != api.OK || at != 0 {
		t.Errorf("ReadList(%.200q) = %v, %d, %d, not %v", s, few(l), e, at, few(want))
	}
}

// readRefuses: for Read the text has this fault there, and nothing else is answered.
func readRefuses(t *testing.T, s string, want api.Errno, there int) {
	t.Helper()
	if l, e, at := relation.Read(s); len(l) != 0 || e != want || at != there {
		t.Errorf("Read(%.200q) = %v, %d, %d, not %d, %d", s, few(l), e, at, want, there)
	}
}

// listRefuses: the same of ReadList.
func listRefuses(t *testing.T, s string, want api.Errno, there int) {
	t.Helper()
	if l, e, at := relation.ReadList(s); len(l) != 0 || e != want || at != there {
		t.Errorf("ReadList(%.200q) = %v, %d, %d, not %d, %d", s, few(l), e, at, want, there)
	}
}

// refuses: for both the text has this fault there.
func refuses(t *testing.T, s string, want api.Errno, there int) {
	t.Helper()
	readRefuses(t, s, want, there)
	listRefuses(t, s, want, there)
}

// readsAsWords: what Read and ReadList answer is what the document's words say; Read's error.
func readsAsWords(t *testing.T, s string) api.Errno {
	t.Helper()
	want, e, there := plainRead(s, true)
	if takes := plainTakes(s); takes != (e == api.OK) {
		t.Errorf("both plain readings differ of %q", s)
	}
	if e == api.OK {
		reads(t, s, want...)
	} else {
		readRefuses(t, s, e, there)
	}
	if want, e, there := plainRead(s, false); e != api.OK {
		listRefuses(t, s, e, there)
	} else if l, e, at := relation.ReadList(s); !slices.Equal(l, firsts(want)) || e != api.OK || at != 0 {
		t.Errorf("ReadList(%q) = %v, %d, %d, not %v", s, l, e, at, firsts(want))
	}
	if t.Failed() {
		t.FailNow()
	}
	return e
}

// writes: the lists have this text; WriteList says so too, if each has one alternative.
func writes(t *testing.T, want string, l ...[]api.Rel) {
	t.Helper()
	if s, e := relation.Write(l); s != want || e != api.OK {
		t.Errorf("Write(%v) = %.400q, %d, not %.400q", few(l), s, e, want)
	}
	if !single(l) {
		return
	}
	if s, e := relation.WriteList(firsts(l)); s != want || e != api.OK {
		t.Errorf("WriteList(%v) = %.400q, %d, not %.400q", few(l), s, e, want)
	}
}

// unwritten: the lists have no text, for WriteList too, if each has one alternative.
func unwritten(t *testing.T, l ...[]api.Rel) {
	t.Helper()
	if s, e := relation.Write(l); s != "" || e != api.ErrShape {
		t.Errorf("Write(%v) = %.400q, %d", few(l), s, e)
	}
	if !single(l) {
		return
	}
	if s, e := relation.WriteList(firsts(l)); s != "" || e != api.ErrShape {
		t.Errorf("WriteList(%v) = %.400q, %d", few(l), s, e)
	}
}

// holds: whether the version meets the relation's.
func holds(t *testing.T, r api.Rel, v string, want bool) {
	t.Helper()
	if ok, e := relation.Holds(r, v); ok != want || e != api.OK {
		t.Errorf("Holds(%q, %q) = %v, %d, not %v", plainOne(r), v, ok, e, want)
	}
}

// holdsNot: the question is refused.
func holdsNot(t *testing.T, r api.Rel, v string, want api.Errno) {
	t.Helper()
	if ok, e := relation.Holds(r, v); ok || e != want {
		t.Errorf("Holds(%v, %q) = %v, %d, not %d", r, v, ok, e, want)
	}
}

// formedAsWords: whether it is Formed, whether it can be written, wherever it stands, and whether it can be asked of are as the document's words say; whether it is.
func formedAsWords(t *testing.T, r api.Rel) bool {
	t.Helper()
	ok := plainFormed(r)
	if relation.Formed(r) != ok {
		t.Errorf("Formed(%v) isn't %v", r, ok)
	}
	one := rel("zz")
	if ok {
		s := plainOne(r)
		writes(t, s, list(r))
		writes(t, "zz, "+s+", zz", list(one), list(r), list(one))
		writes(t, "zz | "+s+" | zz, zz", list(one, r, one), list(one))
		holdsNot(t, r, "x", api.ErrVersion)
	} else {
		unwritten(t, list(r))
		unwritten(t, list(one), list(r), list(one))
		unwritten(t, list(one, r, one), list(one))
		unwritten(t, list(one), list(one, one, r))
		holdsNot(t, r, "1", api.ErrShape)
		holdsNot(t, r, "x", api.ErrShape)
	}
	if t.Failed() {
		t.FailNow()
	}
	return ok
}

// texts: all texts of up to so many of the pieces.
func texts(most int, pieces ...string) []string {
	out := []string{""}
	for from := 0; most > 0; most-- {
		to := len(out)
		for _, s := range out[from:to] {
			for _, p := range pieces {
				out = append(out, s+p)
			}
		}
		from = to
	}
	return out
}

// drawer draws things by a rule of its own, so that they are the same at every run.
type drawer struct{ state uint64 }

func drawn(seed uint64) *drawer { return &drawer{seed} }

// Intn: a number from 0 to n - 1.
func (d *drawer) Intn(n int) int {
	d.state = d.state*6364136223846793005 + 1442695040888963407
	return int(d.state >> 33 % uint64(n))
}

// pick: one of them.
func (d *drawer) pick(of ...string) string { return of[d.Intn(len(of))] }

// version: a legal one.
func (d *drawer) version() string {
	return d.pick("", "0:", "1:", "007:") + d.pick("0", "1", "2", "01", "1.0", "1.", "2a", "10") + d.pick("", "~", "~rc1", "+", ".5", "-0", "-1", "-~", "--a", "-1-2+b")
}

// relation: one that is well shaped.
func (d *drawer) relation() api.Rel {
	name := d.pick("a", "b", "z", "0", "9", "lib") + d.pick("a", "0", "+", "-", ".", "x-y", "c++", "..", "6.1")
	if d.Intn(3) == 0 {
		return rel(name)
	}
	return rel(name, d.pick("<<", "<=", "=", ">=", ">>"), d.version())
}

// lists: some, of one alternative each, if there are to be no bars.
func (d *drawer) lists(bars bool) [][]api.Rel {
	var out [][]api.Rel
	for range d.Intn(5) {
		one := list(d.relation())
		for bars && d.Intn(2) == 0 {
			one = append(one, d.relation())
		}
		out = append(out, one)
	}
	return out
}

// gaps: what may stand between two pieces.
func (d *drawer) gaps() string {
	return d.pick("", "", "", " ", "\t", "\n", "  ", " \n\t", "\n\n")
}

// piecesOf: the text of lists, piece by piece.
func piecesOf(l [][]api.Rel) []string {
	var out []string
	for k, list := range l {
		if k > 0 {
			out = append(out, ",")
		}
		for i, r := range list {
			if i > 0 {
				out = append(out, "|")
			}
			out = append(out, r.Name)
			if r.Op != 0 {
				out = append(out, "(", signOf(r.Op), r.Version, ")")
			}
		}
	}
	return out
}

// spread: the pieces with what gap answers ahead of, behind and between them.
func spread(pieces []string, gap func() string) string {
	out := gap()
	for _, p := range pieces {
		out += p + gap()
	}
	return out
}

// spoilt: the text with some bytes of it changed, taken out or put in.
func (d *drawer) spoilt(s string) string {
	for range d.Intn(4) {
		k := d.Intn(len(s) + 1)
		put := d.pick(" ", "\n", "\t", ",", "|", "(", ")", "<", "=", ">", "a", "1", "A", "-", ":", "_", "\r", "\x00", "\xff", "é", "")
		s = s[:k] + put + s[min(len(s), k+d.Intn(2)):]
	}
	return s
}

// repeated: the pieces one behind the other, so often.
func repeated(n int, pieces ...string) string {
	return strings.Repeat(strings.Join(pieces, ""), n)
}
