package repo_test

import (
	"testing"

	"depot/api"
	"depot/repo"
)

// forms: versions, and the one form of each.
var forms = [][2]string{{"1", "1"}, {"01", "1"}, {"0:01-0", "1"}, {"1.", "1.0"}, {"1.2a", "1.2a0"}, {"0:007-0", "7"}, {"1-2-00", "1-2-0"}, {"0:1:2", "0:1:2"}, {"00", "0"}, {"03:1-~", "3:1-~0"}, {"1-1", "1-1"}}

// P23.4: the chapter's example.
func TestCanonExample(t *testing.T) {
	canons(t, packs(api.Package{Name: "ab", Version: "0:01-0", Depends: choices(list(rel("cd", "=", "1.")))}),
		packs(api.Package{Name: "ab", Version: "1", Depends: choices(list(rel("cd", "=", "1.0")))}))
	canons(t, nil, nil)
	canons(t, []api.Package{}, nil)
}

// P23.4: versions of packages and of relations in each of the five lists, with each Op; a relation to any version stays.
func TestCanonVersions(t *testing.T) {
	for _, form := range forms {
		v, want := form[0], form[1]
		canons(t, packs(pack("ab", v)), packs(pack("ab", want)))
		canons(t, packs(pack("cd", v), pack("ab", v), pack("zz", "02")), packs(pack("cd", want), pack("ab", want), pack("zz", "2")))
		for _, at := range places() {
			for _, sign := range signs[1:] {
				if sign != "=" && at.field == "Provides" {
					continue
				}
				canons(t, packs(at.with(rel("cd", sign, v))), packs(at.with(rel("cd", sign, want))))
				canons(t, packs(pack("zz", "1"), at.with(rel("ef"), rel("cd", sign, v), rel("cd", "=", "00"), rel("gh"))),
					packs(pack("zz", "1"), at.with(rel("ef"), rel("cd", sign, want), rel("cd", "=", "0"), rel("gh"))))
			}
		}
	}
	for _, at := range places() {
		canons(t, packs(at.with(rel("cd"))), packs(at.with(rel("cd"))))
	}
}

// P23.4: packages, lists and relations keep their order and their number, those that then are the same too.
func TestCanonKeepsOrder(t *testing.T) {
	p := api.Package{
		Name: "zz", Version: "02",
		Depends:    choices(list(rel("cd", "=", "1"), rel("cd", "=", "01"), rel("ab")), list(rel("cd", "=", "1-0"))),
		PreDepends: choices(list(rel("zz")), list(rel("zz")), list(rel("aa", ">>", "3."))),
		Conflicts:  list(rel("zz", "<<", "01"), rel("aa"), rel("zz", "<<", "1")),
		Breaks:     list(rel("zz"), rel("zz"), rel("aa", "<=", "0:5")),
		Provides:   list(rel("zz", "=", "01"), rel("zz", "=", "1"), rel("aa")),
	}
	want := api.Package{
		Name: "zz", Version: "2",
		Depends:    choices(list(rel("cd", "=", "1"), rel("cd", "=", "1"), rel("ab")), list(rel("cd", "=", "1"))),
		PreDepends: choices(list(rel("zz")), list(rel("zz")), list(rel("aa", ">>", "3.0"))),
		Conflicts:  list(rel("zz", "<<", "1"), rel("aa"), rel("zz", "<<", "1")),
		Breaks:     list(rel("zz"), rel("zz"), rel("aa", "<=", "5")),
		Provides:   list(rel("zz", "=", "1"), rel("zz", "=", "1"), rel("aa")),
	}
	canons(t, packs(p, pack("aa", "1"), pack("zz", "1.")), packs(want, pack("aa", "1"), pack("zz", "1.0")))
}

// P23.4: ErrShape and no packages, if they aren't well shaped: of each fault.
func TestCanonRefuses(t *testing.T) {
	refused := func(r []api.Package) {
		t.Helper()
		if l, e := repo.Canon(r); len(l) != 0 || e != api.ErrShape {
			t.Errorf("Canon(%v) = %v, %d", r, l, e)
		}
	}
	for _, all := range wrongs() {
		for _, p := range all {
			refused(packs(p))
			refused(packs(pack("zz", "1"), p))
			refused(packs(p, pack("zz", "1")))
		}
	}
	refused(packs(pack("ab", "1"), pack("ab", "01")))
	refused(packs(pack("ab", "1"), pack("cd", "1"), pack("ab", "1")))
	refused(packs(api.Package{}))
}

// P23.4: of many drawn packages the canon is that of the document's words.
func TestCanonAsWords(t *testing.T) {
	draw := drawn(4)
	for range 20000 {
		r := draw.packages(5)
		canons(t, r, plainCanon(r))
		if t.Failed() {
			t.FailNow()
		}
	}
}
