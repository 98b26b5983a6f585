package relation_test

import (
	"slices"
	"testing"

	"depot/api"
	"depot/relation"
)

// back: Read of Write of the lists is themselves, and so it is with ReadList and WriteList, if each has one alternative.
func back(t *testing.T, l [][]api.Rel) {
	t.Helper()
	s, e := relation.Write(l)
	if e != api.OK {
		t.Fatalf("Write(%v): error %d", l, e)
	}
	got, e, at := relation.Read(s)
	if !equal(got, l) || e != api.OK || at != 0 {
		t.Fatalf("Read(%q) = %v, %d, %d, not %v", s, got, e, at, l)
	}
	if !single(l) {
		return
	}
	plain := firsts(l)
	s, e = relation.WriteList(plain)
	if e != api.OK {
		t.Fatalf("WriteList(%v): error %d", plain, e)
	}
	if got, e, at := relation.ReadList(s); !slices.Equal(got, plain) || e != api.OK || at != 0 {
		t.Fatalf("ReadList(%q) = %v, %d, %d, not %v", s, got, e, at, plain)
	}
}

// P22.5, P10: Read of Write(l) is l, ReadList of WriteList(l) is l; of each Op and many versions, and of drawn lists.
func TestThereAndBack(t *testing.T) {
	back(t, nil)
	all := list(rel("zz"))
	for _, name := range []string{"aa", "0+", "a.", "9-z", "lib-c++.6"} {
		for op := api.Any; op <= api.Above; op++ {
			for _, v := range legal {
				r := api.Rel{Name: name, Op: op}
				if op != api.Any {
					r.Version = v
				}
				all = append(all, r)
				back(t, [][]api.Rel{{r}})
			}
		}
	}
	back(t, [][]api.Rel{all})
	back(t, lists(all))
	back(t, append(lists(all), all, all))
	draw := drawn(5)
	for range 20000 {
		back(t, draw.lists(true))
		back(t, draw.lists(false))
	}
}

// checkRead: what Read and ReadList answer with OK of a text can be written, and that reads as the same; how many did.
func checkRead(t *testing.T, s string) int {
	t.Helper()
	read := 0
	if l, e, _ := relation.Read(s); e == api.OK {
		back(t, l)
		read++
		for _, list := range l {
			for _, r := range list {
				if !relation.Formed(r) {
					t.Fatalf("Read(%q) has %v, which isn't Formed", s, r)
				}
			}
		}
	}
	if l, e, _ := relation.ReadList(s); e == api.OK {
		back(t, lists(l))
		read++
	}
	return read
}

// P22.5, P10: what Read and ReadList answer with OK can be written, and Write of it reads as the same.
func TestBackAndThere(t *testing.T) {
	read := 0
	for _, s := range texts(6, "aa", "(<<", "1)", "\n", ",", "|") {
		read += checkRead(t, s)
	}
	if read < 500 {
		t.Errorf("only %d short texts were read", read)
	}
	draw := drawn(6)
	for range 20000 {
		s := spread(piecesOf(draw.lists(true)), draw.gaps)
		read += checkRead(t, s)
		checkRead(t, draw.spoilt(s))
	}
	if read < 20500 {
		t.Errorf("only %d were read", read)
	}
}

// P22.5: ReadList takes just those texts that Read takes with one alternative in each list.
func TestPlainListsAreLists(t *testing.T) {
	takes, takesNot := 0, 0
	check := func(s string) {
		l, e, _ := relation.Read(s)
		plain, other, _ := relation.ReadList(s)
		if (other == api.OK) != (e == api.OK && single(l)) {
			t.Fatalf("of %q Read answers %v, %d, ReadList %v, %d", s, l, e, plain, other)
		}
		if other != api.OK {
			takesNot++
			return
		}
		takes++
		if !slices.Equal(plain, firsts(l)) {
			t.Fatalf("of %q Read answers %v, ReadList %v", s, l, plain)
		}
	}
	for _, s := range texts(6, "aa", "(=", "1)", " ", ",", "|", "A") {
		check(s)
	}
	draw := drawn(7)
	for range 20000 {
		s := spread(piecesOf(draw.lists(draw.Intn(2) == 0)), draw.gaps)
		check(s)
		check(draw.spoilt(s))
	}
	if takes < 1000 || takesNot < 1000 {
		t.Errorf("ReadList takes %d, takes %d not", takes, takesNot)
	}
}

// P22.5: gaps put in or taken away between pieces change no answer with OK.
func TestGapsPutIn(t *testing.T) {
	draw := drawn(8)
	for n := range 20000 {
		l := draw.lists(n%2 == 0)
		pieces := piecesOf(l)
		reads(t, spread(pieces, func() string { return "" }), l...)
		for range 3 {
			reads(t, spread(pieces, draw.gaps), l...)
		}
		if s, e := relation.Write(l); e == api.OK {
			reads(t, draw.gaps()+s+draw.gaps(), l...)
		}
		if t.Failed() {
			t.FailNow()
		}
	}
}
