package repo_test

import (
	"testing"

	"depot/api"
	"depot/repo"
	"depot/version"
)

// back: Read of Write of the packages is themselves.
func back(t *testing.T, r []api.Package) {
	t.Helper()
	s, e := repo.Write(r)
	if e != api.OK {
		t.Fatalf("Write(%v): error %d", few(r), e)
	}
	reads(t, s, r...)
	if t.Failed() {
		t.FailNow()
	}
}

// P23.6, P10: Read of Write of packages that are well shaped is themselves.
func TestThereAndBack(t *testing.T) {
	back(t, nil)
	back(t, examplePackages())
	for _, at := range places() {
		for _, sign := range signs[1:] {
			for _, form := range forms {
				if sign == "=" || at.field != "Provides" {
					back(t, packs(at.with(rel("cd", sign, form[0]))))
					back(t, packs(pack("zz", form[0]), at.with(rel("ef"), rel("cd", sign, form[0]), rel("cd", sign, form[0]))))
				}
			}
		}
	}
	draw := drawn(6)
	for range 8000 {
		back(t, draw.packages(6))
	}
}

// P23.6, P10: what is read and is well shaped can be written, and that reads as the same.
func TestBackAndThere(t *testing.T) {
	draw := drawn(7)
	count := 0
	for range 8000 {
		s := draw.drawnText(draw.packages(4))
		for _, s := range []string{s, draw.spoilt(s)} {
			l, e, _ := repo.Read(s)
			if e == api.OK && repo.Formed(l) {
				back(t, l)
				count++
			}
		}
	}
	if count < 8400 {
		t.Errorf("only %d were read", count)
	}
}

// otherwise: the same version, or one that is as great and written otherwise.
func (d *drawer) otherwise(v string) string {
	all := []string{v}
	epoch, upstream, revision, _ := version.Cut(v)
	if epoch == "" {
		all = append(all, "0:"+v, "00:"+v)
	} else {
		all = append(all, "0"+v)
	}
	if revision == "" {
		all = append(all, v+"-0", v+"-00")
	} else {
		all = append(all, v[:len(v)-len(upstream)-1-len(revision)]+"0"+upstream+"-"+revision)
	}
	c, _ := version.Canon(v)
	return d.pick(append(all, c)...)
}

// P23.6: what Canon answers is well shaped, and its own Canon; Canon of packages with other versions that are as great is the same.
func TestCanonFollows(t *testing.T) {
	draw := drawn(8)
	changed := 0
	for range 8000 {
		r := draw.packages(6)
		one := canon(t, r...)
		formed(t, one...)
		canons(t, one, one)
		back(t, one)
		other := others(r, draw.otherwise)
		if !same(other, r) {
			changed++
		}
		formed(t, other...)
		canons(t, other, one)
		if t.Failed() {
			t.FailNow()
		}
	}
	if changed < 4000 {
		t.Errorf("only %d were written otherwise", changed)
	}
}

// P23.6: of packages that are well shaped Find of each one's name and version is its number; so it is with the version's canon, and in the list's canon.
func TestFindFollows(t *testing.T) {
	draw := drawn(9)
	for range 8000 {
		r := draw.packages(8)
		c := canon(t, r...)
		for k, p := range r {
			finds(t, r, p.Name, p.Version, k)
			finds(t, r, p.Name, c[k].Version, k)
			finds(t, r, p.Name, draw.otherwise(p.Version), k)
			finds(t, c, p.Name, p.Version, k)
		}
		if t.Failed() {
			t.FailNow()
		}
	}
}

// P23.1, P23.6: whether packages are well shaped is seen by Fault, Formed, Write and Canon alike, and doesn't hang on how versions are written.
func TestFaultFollows(t *testing.T) {
	draw := drawn(10)
	seen := map[api.Errno]int{}
	for range 8000 {
		r := draw.packages(5)
		draw.spoil(r)
		e := faultAsWords(t, r)
		seen[e]++
		other := others(r, func(v string) string {
			if !version.Legal(v) {
				return v
			}
			return draw.otherwise(v)
		})
		if again := faultAsWords(t, other); again != e {
			t.Fatalf("the fault of %v is %d, of %v %d", r, e, other, again)
		}
	}
	wantEach(t, seen, api.OK, api.ErrName, api.ErrVersion, api.ErrRel, api.ErrSame)
}
