package repo_test

import (
	"strings"
	"testing"

	"depot/api"
	"depot/repo"
)

// P23.3: the chapter's examples.
func TestWriteExamples(t *testing.T) {
	writes(t, "Package: ab\nVersion: 1\nDepends: cd (>= 2) | ef\nProvides: ij\n\nPackage: cd\nVersion: 2\n",
		api.Package{Name: "ab", Version: "1", Depends: choices(list(rel("cd", ">=", "2"), rel("ef"))), Provides: list(rel("ij"))}, pack("cd", "2"))
	writes(t, "")
	writes(t, "", []api.Package{}...)
}

// P23.3: all fields, in their order, with all operators; versions as they stand.
func TestWriteFields(t *testing.T) {
	all := api.Package{
		Provides:   list(rel("pp"), rel("qq", "=", "0:01-0")),
		Breaks:     list(rel("nn", ">=", "1"), rel("oo", "=", "1.")),
		Conflicts:  list(rel("kk"), rel("ll", "<<", "1"), rel("mm", ">>", "2:3:4-5")),
		PreDepends: choices(list(rel("gg"), rel("hh", "<=", "1~")), list(rel("ii"))),
		Depends:    choices(list(rel("cc", ">=", "01"), rel("dd"), rel("ee")), list(rel("ff"))),
		Version:    "0:007-0",
		Name:       "ab",
	}
	want := "Package: ab\nVersion: 0:007-0\nDepends: cc (>= 01) | dd | ee, ff\nPre-Depends: gg | hh (<= 1~), ii\nConflicts: kk, ll (<< 1), mm (>> 2:3:4-5)\nBreaks: nn (>= 1), oo (= 1.)\nProvides: pp, qq (= 0:01-0)\n"
	writes(t, want, all)
	other := all
	other.Name = "zz"
	writes(t, want+"\nPackage: cd\nVersion: 1\n\n"+strings.Replace(want, "ab", "zz", 1), all, pack("cd", "1"), other)
}

// P23.3: each field alone, of one relation and of two; those that are empty aren't written, nil or not.
func TestWriteEachField(t *testing.T) {
	writes(t, head, pack("ab", "1"))
	writes(t, head, api.Package{Name: "ab", Version: "1", Depends: choices(), PreDepends: make([][]api.Rel, 0, 3), Conflicts: list(), Breaks: make([]api.Rel, 0, 3), Provides: list()})
	for k, at := range places() {
		between := []string{" | ", " | ", ", ", ", ", ", "}[k]
		for _, r := range []api.Rel{rel("cd"), rel("cd", "=", "01")} {
			writes(t, head+at.field+": "+plainOne(r)+"\n", at.with(r))
			writes(t, head+at.field+": "+plainOne(r)+between+"ef"+between+"cd\n", at.with(r, rel("ef"), rel("cd")))
		}
		for other, at2 := range places() {
			if other <= k {
				continue
			}
			p, q := at.with(rel("cd")), at2.with(rel("ef"))
			both := api.Package{Name: "ab", Version: "1", Depends: append(p.Depends, q.Depends...), PreDepends: append(p.PreDepends, q.PreDepends...), Conflicts: append(p.Conflicts, q.Conflicts...), Breaks: append(p.Breaks, q.Breaks...), Provides: append(p.Provides, q.Provides...)}
			writes(t, head+at.field+": cd\n"+at2.field+": ef\n", both)
		}
	}
	writes(t, head+"Depends: cd, ef\n", api.Package{Name: "ab", Version: "1", Depends: choices(list(rel("cd")), list(rel("ef")))})
	writes(t, head+"Pre-Depends: cd, ef | gh\n", api.Package{Name: "ab", Version: "1", PreDepends: choices(list(rel("cd")), list(rel("ef"), rel("gh")))})
}

// P23.3: ErrShape and no text, if the packages aren't well shaped: of each fault.
func TestWriteRefuses(t *testing.T) {
	for want, all := range wrongs() {
		for _, p := range all {
			for _, r := range [][]api.Package{{p}, {pack("zz", "1"), p}, {p, pack("zz", "1")}} {
				if s, e := repo.Write(r); s != "" || e != api.ErrShape {
					t.Errorf("Write(%v) = %q, %d, though the fault is %d", r, s, e, want)
				}
			}
		}
	}
	for _, r := range [][]api.Package{{pack("ab", "1"), pack("ab", "01")}, {pack("cd", "1"), pack("ab", "1"), pack("cd", "1")}, {{}}, {pack("ab", "1"), {}}} {
		if s, e := repo.Write(r); s != "" || e != api.ErrShape {
			t.Errorf("Write(%v) = %q, %d", r, s, e)
		}
	}
}

// P23.3: of many drawn packages the text is that of the document's words.
func TestWriteAsWords(t *testing.T) {
	draw := drawn(3)
	for range 20000 {
		r := draw.packages(5)
		writes(t, plainWrite(r), r...)
		if t.Failed() {
			t.FailNow()
		}
	}
}
