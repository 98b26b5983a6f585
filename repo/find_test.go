package repo_test

import (
	"testing"

	"depot/api"
)

// P23.5: the chapter's examples.
func TestFindExamples(t *testing.T) {
	r := packs(pack("ab", "1"), pack("ab", "2"), pack("cd", "1"))
	finds(t, r, "ab", "02", 1)
	finds(t, r, "ab", "3", -1)
	finds(t, r, "cd", "1-0", 2)
	finds(t, r, "cd", "x", -1)
}

// P23.5: a name that is there and isn't, and names that are nearly the same.
func TestFindNames(t *testing.T) {
	r := packs(pack("ab", "1"), pack("abc", "1"), pack("cd", "1"), pack("ab", "2"))
	finds(t, r, "ab", "1", 0)
	finds(t, r, "abc", "1", 1)
	finds(t, r, "cd", "1", 2)
	finds(t, r, "ab", "2", 3)
	for _, name := range []string{"", "a", "b", "AB", "Ab", "ab ", " ab", "ef", "abcd", "bc", "ab\x00"} {
		finds(t, r, name, "1", -1)
		finds(t, r, name, "2", -1)
	}
	finds(t, r, "abc", "2", -1)
	finds(t, r, "cd", "2", -1)
	finds(t, nil, "ab", "1", -1)
	finds(t, []api.Package{}, "", "", -1)
}

// P23.5: a version written otherwise, in the list and asked for.
func TestFindVersions(t *testing.T) {
	for _, form := range forms {
		v, c := form[0], form[1]
		r := packs(pack("cd", v), pack("ab", "9"), pack("ab", v), pack("ab", "8"))
		finds(t, r, "ab", v, 2)
		finds(t, r, "ab", c, 2)
		finds(t, packs(pack("ab", "9"), pack("ab", c)), "ab", v, 1)
		finds(t, r, "ab", v+"~", -1)
		finds(t, r, "ab", v+"~0", -1)
		finds(t, r, "cd", "9", -1)
	}
}

// P23.5: a version that isn't legal is found nowhere, and finds nothing, though it is the same text.
func TestFindIllegal(t *testing.T) {
	for _, v := range []string{"", "x", "1-", "-1", ":1", "1:", "1_2", "1 ", "1\xff"} {
		r := packs(pack("ab", v), pack("ab", "1"), pack("ab", v), pack("ab", "0"))
		finds(t, r, "ab", v, -1)
		finds(t, r, "ab", "1", 1)
		finds(t, r, "ab", "0", 3)
		finds(t, r, "ab", "2", -1)
		finds(t, packs(pack("ab", "1")), "ab", v, -1)
		finds(t, packs(pack("ab", "0")), "ab", v, -1)
		finds(t, packs(pack("ab", v)), "ab", "0", -1)
		finds(t, nil, "ab", v, -1)
	}
}

// P23.5: of several that are as great it is the first.
func TestFindFirst(t *testing.T) {
	r := packs(pack("cd", "01"), pack("ab", "2"), pack("ab", "0:1"), pack("ab", "1"), pack("ab", "01"), pack("ab", "2-0"), pack("cd", "1"))
	for _, v := range []string{"1", "01", "1-0", "0:1"} {
		finds(t, r, "ab", v, 2)
		finds(t, r[3:], "ab", v, 0)
		finds(t, r[4:], "ab", v, 0)
		finds(t, r[5:], "ab", v, -1)
		finds(t, r, "cd", v, 0)
		finds(t, r[1:], "cd", v, 5)
	}
	finds(t, r, "ab", "02", 1)
	finds(t, r[2:], "ab", "02", 3)
}

// P23.5: lists that aren't well shaped are gone through as others: names and versions that are none, bad relations, packages twice.
func TestFindUnshaped(t *testing.T) {
	for _, all := range wrongs() {
		for _, p := range all {
			r := packs(p, pack("zz", "1"), p, pack("zz", "01"))
			finds(t, r, "zz", "1-0", 1)
			finds(t, r, "zz", "2", -1)
			finds(t, r, p.Name, p.Version, plainFind(r, p.Name, p.Version))
		}
	}
	finds(t, packs(pack("A", "x"), pack("A", "1")), "A", "01", 1)
	finds(t, packs(pack("cd", "1"), pack("", "1")), "", "1", 1)
	finds(t, packs(pack("\xff", "1"), pack("é", "1")), "é", "1", 1)
	finds(t, packs(api.Package{Name: "ab", Version: "1", Depends: choices(nil)}), "ab", "1", 0)
}

// P23.5: of many drawn lists, spoilt ones among them, the answer is that of the document's words.
func TestFindAsWords(t *testing.T) {
	draw := drawn(5)
	found := 0
	for range 20000 {
		r := append(draw.packages(5), draw.packages(5)...)
		draw.spoil(r)
		for range 5 {
			name, v := draw.pick("a", "", "A", draw.name(), draw.name()), draw.pick("x", "", draw.version(), draw.version(), draw.version())
			if len(r) > 0 && draw.Intn(3) > 0 {
				name, v = r[draw.Intn(len(r))].Name, draw.pick(v, r[draw.Intn(len(r))].Version)
			}
			want := plainFind(r, name, v)
			finds(t, r, name, v, want)
			if want >= 0 {
				found++
			}
		}
		if t.Failed() {
			t.FailNow()
		}
	}
	if found < 1000 {
		t.Errorf("only %d were found", found)
	}
}
