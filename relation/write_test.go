package relation_test

import (
	"testing"

	"depot/api"
)

// P22.3: the chapter's examples.
func TestWriteExamples(t *testing.T) {
	writes(t, "libc6 (>= 2.4), a1 | b2 (<< 1:2-3)", list(rel("libc6", ">=", "2.4")), list(rel("a1"), rel("b2", "<<", "1:2-3")))
	unwritten(t, nil)
	writes(t, "")
	writes(t, "aa (= 1), bb", list(rel("aa", "=", "1")), list(rel("bb")))
}

// P22.3: no lists, nil or not, have the empty text; one list without relations has none, wherever it stands.
func TestWriteNothing(t *testing.T) {
	writes(t, "", [][]api.Rel{}...)
	writes(t, "", make([][]api.Rel, 0, 3)...)
	one := list(rel("aa"))
	for _, none := range [][]api.Rel{nil, {}, make([]api.Rel, 0, 3), list(rel("bb"), rel("cc"))[:0]} {
		unwritten(t, none)
		unwritten(t, none, none)
		unwritten(t, none, one)
		unwritten(t, one, none)
		unwritten(t, one, none, one)
		unwritten(t, list(rel("aa"), rel("bb")), one, none)
	}
}

// P22.3: each operator, in the first place and in later ones.
func TestWriteOperators(t *testing.T) {
	writes(t, "aa (<< 1), aa (<= 1), aa (= 1), aa (>= 1), aa (>> 1), aa", list(rel("aa", "<<", "1")), list(rel("aa", "<=", "1")), list(rel("aa", "=", "1")), list(rel("aa", ">=", "1")), list(rel("aa", ">>", "1")), list(rel("aa")))
	writes(t, "aa (<< 1) | aa (<= 1) | aa (= 1) | aa (>= 1) | aa (>> 1) | aa", list(rel("aa", "<<", "1"), rel("aa", "<=", "1"), rel("aa", "=", "1"), rel("aa", ">=", "1"), rel("aa", ">>", "1"), rel("aa")))
}

// P22.3: what stands between lists, and between relations.
func TestWriteBetween(t *testing.T) {
	a, b := rel("aa"), rel("bb", ">>", "1")
	writes(t, "aa", list(a))
	writes(t, "aa | bb (>> 1)", list(a, b))
	writes(t, "bb (>> 1) | aa | aa", list(b, a, a))
	writes(t, "aa, bb (>> 1), aa", list(a), list(b), list(a))
	writes(t, "aa | aa, bb (>> 1) | aa, aa, bb (>> 1)", list(a, a), list(b, a), list(a), list(b))
}

// P22.3: one relation that isn't well shaped is enough, in whichever list and place.
func TestWriteUnformed(t *testing.T) {
	wrong := []api.Rel{{}, {Name: "a"}, {Name: "AA"}, {Name: "aa", Version: "1"}, {Name: "aa", Op: 3}, {Name: "aa", Op: 3, Version: "x"}, {Name: "aa", Op: 6, Version: "1"}, {Name: "aa", Op: -1, Version: "1"}, {Op: 3, Version: "1"}, {Name: "aa", Op: 6}, {Name: "aa, bb"}, {Name: "aa (= 1)"}}
	for _, bad := range wrong {
		for n := range 4 {
			for at := range n + 1 {
				var among []api.Rel
				for k := range n + 1 {
					among = append(among, rel("zz"))
					if k == at {
						among[k] = bad
					}
				}
				unwritten(t, among)
				unwritten(t, lists(among)...)
				unwritten(t, list(rel("zz", "=", "1")), among)
				unwritten(t, among, list(rel("zz", "=", "1"), rel("yy")))
			}
		}
	}
}

// P22.3: of drawn lists, whole ones and spoilt ones, the text is that of the document's words.
func TestWriteAsWords(t *testing.T) {
	draw := drawn(2)
	whole, broken := 0, 0
	for range 20000 {
		l := draw.lists(draw.Intn(2) == 0)
		for k := range l {
			switch r := &l[k][draw.Intn(len(l[k]))]; draw.Intn(20) {
			case 0:
				r.Name = draw.spoilt(r.Name)
			case 1:
				r.Version = draw.spoilt(r.Version)
			case 2:
				r.Op = draw.Intn(9) - 1
			case 3:
				l[k] = l[k][:0]
			}
		}
		if s, ok := plainWrite(l); ok {
			writes(t, s, l...)
			whole++
		} else {
			unwritten(t, l...)
			broken++
		}
	}
	if whole < 1000 || broken < 1000 {
		t.Errorf("%d have a text, %d have none", whole, broken)
	}
}
