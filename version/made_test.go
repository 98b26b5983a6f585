package version_test

import (
	"slices"
	"strings"
	"testing"

	"depot/api"
	"depot/version"
)

// drawer draws things by a rule of its own, so that they are the same at every run.
type drawer struct{ state uint64 }

func drawn(seed uint64) *drawer { return &drawer{seed} }

// Intn: a number from 0 to n - 1.
func (d *drawer) Intn(n int) int {
	d.state = d.state*6364136223846793005 + 1442695040888963407
	return int(d.state >> 33 % uint64(n))
}

// pick: one of them.
func (d *drawer) pick(of ...string) string { return of[d.Intn(len(of))] }

// part: some pieces of a part, minuses and colons not among them.
func (d *drawer) part(most int) string {
	var out strings.Builder
	for range d.Intn(most + 1) {
		out.WriteString(d.pick("0", "1", "9", "00", "10", "01", "12345678901234567890", "~", "~~", ".", "+", "a", "b", "Z", "rc", "~rc", "..", "a~", ".0"))
	}
	return out.String()
}

// version: a legal one.
func (d *drawer) version() string {
	var epoch, colon, minus string
	if d.Intn(2) == 0 {
		epoch, colon = d.pick("0:", "1:", "00:", "01:", "2:"), d.pick("", "", ":", ":0", ":1")
	}
	out := epoch + d.pick("0", "1", "00", "01", "2", "10") + d.part(4) + colon
	switch d.Intn(3) {
	case 0:
		return out
	case 1:
		minus = d.pick("-", "-0", "--", "-1", "-~") + d.part(2)
	}
	return out + minus + "-" + d.pick("0", "1", "00", "~", "a", "+") + d.part(3)
}

// spoilt: the text with some bytes of it changed, taken out or put in.
func (d *drawer) spoilt(s string) string {
	for range d.Intn(4) {
		k := d.Intn(len(s) + 1)
		put := d.pick("0", "1", "-", ":", "~", ".", "+", "a", "Z", " ", "\n", "_", "\x00", "\xff", "é", "")
		s = s[:k] + put + s[min(len(s), k+d.Intn(2)):]
	}
	return s
}

// texts: all texts of up to so many of the pieces.
func texts(most int, pieces ...string) []string {
	out := []string{""}
	for from := 0; most > 0; most-- {
		to := len(out)
		for _, s := range out[from:to] {
			for _, p := range pieces {
				out = append(out, s+p)
			}
		}
		from = to
	}
	return out
}

// legalOnes: those of the texts that are versions by the document's words.
func legalOnes(of []string) []string {
	return slices.DeleteFunc(of, func(s string) bool {
		_, ok := plainCut(s)
		return !ok
	})
}

// someVersions: many versions of few bytes, and some drawn ones.
func someVersions(short, long int) []string {
	out := legalOnes(texts(short, "0", "1", "a", "~", ".", "-", ":"))
	draw := drawn(7)
	for range long {
		out = append(out, draw.version())
	}
	return out
}

// equalKeys: are they the same, nil or without elements?
func equalKeys(a, b [][]api.Block) bool {
	return slices.EqualFunc(a, b, func(x, y []api.Block) bool { return slices.Equal(x, y) })
}

// illegal: the text is no version, and all calls say so.
func illegal(t *testing.T, s string) {
	t.Helper()
	if version.Legal(s) {
		t.Errorf("Legal(%q)", s)
	}
	if a, b, c, e := version.Cut(s); a+b+c != "" || e != api.ErrVersion {
		t.Errorf("Cut(%q) = %q, %q, %q, %d", s, a, b, c, e)
	}
	if key, e := version.Key(s); key != nil || e != api.ErrVersion {
		t.Errorf("Key(%q) = %v, %d", s, key, e)
	}
	if c, e := version.Canon(s); c != "" || e != api.ErrVersion {
		t.Errorf("Canon(%q) = %q, %d", s, c, e)
	}
	for _, pair := range [][2]string{{s, "1"}, {"1", s}, {s, s}, {s, "x"}, {"x", s}} {
		if c, e := version.Cmp(pair[0], pair[1]); c != 0 || e != api.ErrVersion {
			t.Errorf("Cmp(%q, %q) = %d, %d", pair[0], pair[1], c, e)
		}
	}
	if k, e := version.Newest([]string{"1", "2", s}); k != 0 || e != api.ErrVersion {
		t.Errorf("Newest of 1, 2 and %q = %d, %d", s, k, e)
	}
}

// cuts: the text is a version of these pieces.
func cuts(t *testing.T, s, epoch, upstream, revision string) {
	t.Helper()
	if !version.Legal(s) {
		t.Errorf("%q isn't Legal", s)
	}
	if a, b, c, e := version.Cut(s); a != epoch || b != upstream || c != revision || e != api.OK {
		t.Errorf("Cut(%q) = %q, %q, %q, %d", s, a, b, c, e)
	}
}

// compares: Cmp of the two is c, and of the two the other way about its opposite.
func compares(t *testing.T, a, b string, c int) {
	t.Helper()
	if got, e := version.Cmp(a, b); got != c || e != api.OK {
		t.Errorf("Cmp(%q, %q) = %d, %d, not %d", a, b, got, e, c)
	}
	if got, e := version.Cmp(b, a); got != -c || e != api.OK {
		t.Errorf("Cmp(%q, %q) = %d, %d, not %d", b, a, got, e, -c)
	}
}

// keys: Key of the text has these blocks, and Canon of it is canon.
func keys(t *testing.T, s string, epoch, upstream, revision []api.Block, canon string) {
	t.Helper()
	if key, e := version.Key(s); !equalKeys(key, [][]api.Block{epoch, upstream, revision}) || e != api.OK {
		t.Errorf("Key(%q) = %q, %d", s, key, e)
	}
	if got, e := version.Canon(s); got != canon || e != api.OK {
		t.Errorf("Canon(%q) = %q, %d, not %q", s, got, e, canon)
	}
}

// row: blocks of texts and numbers, in turns.
func row(l ...string) []api.Block {
	var out []api.Block
	for pair := range slices.Chunk(l, 2) {
		out = append(out, api.Block{Text: pair[0], Number: pair[1]})
	}
	return out
}

// newest: Newest of the list is at that place.
func newest(t *testing.T, at int, l ...string) {
	t.Helper()
	if got, e := version.Newest(l); got != at || e != api.OK {
		t.Errorf("Newest(%q) = %d, %d, not %d", l, got, e, at)
	}
}

// asWords: all that is answered of the one text is what the document's words say; whether it is a version.
func asWords(t *testing.T, s string) bool {
	t.Helper()
	pieces, ok := plainCut(s)
	if ok {
		cuts(t, s, pieces[0], pieces[1], pieces[2])
		key := plainKey(s)
		keys(t, s, key[0], key[1], key[2], plainCanon(key))
	} else {
		illegal(t, s)
	}
	if t.Failed() {
		t.FailNow()
	}
	return ok
}
