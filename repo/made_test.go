package repo_test

import (
	"slices"
	"strings"
	"testing"

	"depot/api"
	"depot/repo"
)

// rel: a relation of a name alone, or of a name, an operator and a version.
func rel(l ...string) api.Rel {
	if len(l) == 1 {
		return api.Rel{Name: l[0]}
	}
	return api.Rel{Name: l[0], Op: slices.Index(signs, l[1]), Version: l[2]}
}

// signs: how each Op is written.
var signs = []string{"", "<<", "<=", "=", ">=", ">>"}

// list: some relations.
func list(l ...api.Rel) []api.Rel { return l }

// choices: some lists of alternatives.
func choices(l ...[]api.Rel) [][]api.Rel { return l }

// pack: a package of a name and a version alone.
func pack(name, v string) api.Package { return api.Package{Name: name, Version: v} }

// packs: some packages.
func packs(l ...api.Package) []api.Package { return l }

// place is a list of a package's relations: the name of its field, and a package ab 1 with these relations there and nothing else.
type place struct {
	field string
	with  func(l ...api.Rel) api.Package
}

// places: the five lists of a package, in the order in which they are asked for; where lists of alternatives stand it is one such list.
func places() []place {
	return []place{
		{"Depends", func(l ...api.Rel) api.Package {
			return api.Package{Name: "ab", Version: "1", Depends: choices(l)}
		}},
		{"Pre-Depends", func(l ...api.Rel) api.Package {
			return api.Package{Name: "ab", Version: "1", PreDepends: choices(l)}
		}},
		{"Conflicts", func(l ...api.Rel) api.Package {
			return api.Package{Name: "ab", Version: "1", Conflicts: l}
		}},
		{"Breaks", func(l ...api.Rel) api.Package {
			return api.Package{Name: "ab", Version: "1", Breaks: l}
		}},
		{"Provides", func(l ...api.Rel) api.Package {
			return api.Package{Name: "ab", Version: "1", Provides: l}
		}},
	}
}

// sameChoices: are they the same, nil or without elements?
func sameChoices(a, b [][]api.Rel) bool {
	return slices.EqualFunc(a, b, func(x, y []api.Rel) bool { return slices.Equal(x, y) })
}

// same: are they the same packages, nil or without elements?
func same(a, b []api.Package) bool {
	return slices.EqualFunc(a, b, func(p, q api.Package) bool {
		return p.Name == q.Name && p.Version == q.Version && sameChoices(p.Depends, q.Depends) && sameChoices(p.PreDepends, q.PreDepends) &&
			slices.Equal(p.Conflicts, q.Conflicts) && slices.Equal(p.Breaks, q.Breaks) && slices.Equal(p.Provides, q.Provides)
	})
}

// clonedChoices: the lists once more, with nothing in common.
func clonedChoices(l [][]api.Rel) [][]api.Rel {
	out := slices.Clone(l)
	for k := range out {
		out[k] = slices.Clone(out[k])
	}
	return out
}

// cloned: the packages once more, with nothing in common.
func cloned(r []api.Package) []api.Package {
	out := slices.Clone(r)
	for k, p := range out {
		out[k] = api.Package{Name: p.Name, Version: p.Version, Depends: clonedChoices(p.Depends), PreDepends: clonedChoices(p.PreDepends),
			Conflicts: slices.Clone(p.Conflicts), Breaks: slices.Clone(p.Breaks), Provides: slices.Clone(p.Provides)}
	}
	return out
}

// few: the first ones of very many, for people to read.
func few(r []api.Package) []api.Package { return r[:min(len(r), 6)] }

// faulty: the list has this fault at this package, and nothing is made of it.
func faulty(t *testing.T, want api.Errno, there int, r ...api.Package) {
	t.Helper()
	if e, at := repo.Fault(r); e != want || at != there {
		t.Errorf("Fault(%v) = %d, %d, not %d, %d", few(r), e, at, want, there)
	}
	if repo.Formed(r) {
		t.Errorf("Formed(%v)", few(r))
	}
	if s, e := repo.Write(r); s != "" || e != api.ErrShape {
		t.Errorf("Write(%v) = %.400q, %d", few(r), s, e)
	}
	if l, e := repo.Canon(r); len(l) != 0 || e != api.ErrShape {
		t.Errorf("Canon(%v) = %v, %d", few(r), few(l), e)
	}
}

// formed: the list is well shaped, so it can be written, and has a canon.
func formed(t *testing.T, r ...api.Package) {
	t.Helper()
	if e, at := repo.Fault(r); e != api.OK || at != 0 {
		t.Errorf("Fault(%v) = %d, %d", few(r), e, at)
	}
	if !repo.Formed(r) {
		t.Errorf("Formed(%v) is false", few(r))
	}
	if _, e := repo.Write(r); e != api.OK {
		t.Errorf("Write(%v): error %d", few(r), e)
	}
	if l, e := repo.Canon(r); len(l) != len(r) || e != api.OK {
		t.Errorf("Canon(%v) = %v, %d", few(r), few(l), e)
	}
}

// reads: the text has these packages.
func reads(t *testing.T, s string, want ...api.Package) {
	t.Helper()
	if l, e, line := repo.Read(s); !same(l, want) || e != api.OK || line != 0 {
		t.Errorf("Read(%.400q) = %v, %d, %d, not %v", s, few(l), e, line, few(want))
	}
}

// refuses: the text has this fault in this line, and no packages.
func refuses(t *testing.T, s string, want api.Errno, there int) {
	t.Helper()
	if l, e, line := repo.Read(s); len(l) != 0 || e != want || line != there {
		t.Errorf("Read(%.400q) = %v, %d, %d, not %d, %d", s, few(l), e, line, want, there)
	}
}

// writes: the packages have this text.
func writes(t *testing.T, want string, r ...api.Package) {
	t.Helper()
	if s, e := repo.Write(r); s != want || e != api.OK {
		t.Errorf("Write(%v) = %.600q, %d, not %.600q", few(r), s, e, want)
	}
}

// canon: Canon of packages that are well shaped.
func canon(t *testing.T, r ...api.Package) []api.Package {
	t.Helper()
	l, e := repo.Canon(r)
	if e != api.OK {
		t.Fatalf("Canon(%v): error %d", few(r), e)
	}
	return l
}

// canons: the packages have this canon.
func canons(t *testing.T, r, want []api.Package) {
	t.Helper()
	if l, e := repo.Canon(r); !same(l, want) || e != api.OK {
		t.Errorf("Canon(%v) = %v, %d, not %v", few(r), few(l), e, few(want))
	}
}

// finds: the number that Find answers.
func finds(t *testing.T, r []api.Package, name, v string, want int) {
	t.Helper()
	if at := repo.Find(r, name, v); at != want {
		t.Errorf("Find(%v, %.40q, %.40q) = %d, not %d", few(r), name, v, at, want)
	}
}

// drawer draws things by a rule of its own, so that they are the same at every run.
type drawer struct{ state uint64 }

func drawn(seed uint64) *drawer { return &drawer{seed} }

// Intn: a number from 0 to n - 1.
func (d *drawer) Intn(n int) int {
	d.state = d.state*6364136223846793005 + 1442695040888963407
	return int(d.state >> 33 % uint64(n))
}

// pick: one of them.
func (d *drawer) pick(of ...string) string { return of[d.Intn(len(of))] }

// version: a legal one; many are as great as others.
func (d *drawer) version() string {
	return d.pick("", "", "0:", "1:", "01:") + d.pick("0", "1", "2", "01", "1.0", "1.", "2a", "10") + d.pick("", "", "~", "+", ".5", "-0", "-1", "-~")
}

// name: a package's name.
func (d *drawer) name() string {
	return d.pick("ab", "ab", "cd", "cd", "ef", "0.", "lib-x+", "zz")
}

// relation: one that is well shaped, without a version or with one of these operators.
func (d *drawer) relation(signs ...string) api.Rel {
	if d.Intn(3) == 0 {
		return rel(d.name())
	}
	return rel(d.name(), d.pick(signs...), d.version())
}

// some: up to so many relations, but so many at least.
func (d *drawer) some(least, most int, signs ...string) []api.Rel {
	var out []api.Rel
	for range least + d.Intn(most-least+1) {
		out = append(out, d.relation(signs...))
	}
	return out
}

// choices: some lists of alternatives; often none.
func (d *drawer) choices() [][]api.Rel {
	var out [][]api.Rel
	for range d.Intn(3) {
		out = append(out, d.some(1, 3, signs[1:]...))
	}
	return out
}

// packages: some that are well shaped.
func (d *drawer) packages(most int) []api.Package {
	var out []api.Package
	for range d.Intn(most + 1) {
		p := api.Package{Name: d.name(), Version: d.version(), Depends: d.choices(), PreDepends: d.choices(), Conflicts: d.some(0, 2, signs[1:]...), Breaks: d.some(0, 2, signs[1:]...), Provides: d.some(0, 2, "=")}
		if plainFind(out, p.Name, p.Version) < 0 {
			out = append(out, p)
		}
	}
	return out
}

// spoilRel changes one thing of a relation, perhaps so that it is still well shaped.
func (d *drawer) spoilRel(r *api.Rel) {
	switch d.Intn(3) {
	case 0:
		r.Name = d.pick("a", "", "A1", "zz", "a_b")
	case 1:
		r.Op = d.Intn(8) - 1
	case 2:
		r.Version = d.pick("", "x", "1", "1-", "02")
	}
}

// spoilList changes one thing of a list that isn't empty.
func (d *drawer) spoilList(l []api.Rel) {
	if len(l) > 0 {
		d.spoilRel(&l[d.Intn(len(l))])
	}
}

// spoil changes one thing of some packages, perhaps so that they are still well shaped.
func (d *drawer) spoil(r []api.Package) {
	if len(r) == 0 {
		return
	}
	p := &r[d.Intn(len(r))]
	switch d.Intn(9) {
	case 0:
		p.Name = d.pick("a", "", "A", "ab", "cd")
	case 1:
		p.Version = d.pick("x", "", "1", "01", "2")
	case 2:
		q := r[d.Intn(len(r))]
		p.Name, p.Version = q.Name, q.Version
	case 3:
		p.Depends = append(p.Depends, d.some(0, 1, signs[1:]...))
	case 4:
		p.PreDepends = append(p.PreDepends, d.some(0, 1, signs[1:]...))
	case 5:
		for _, l := range slices.Concat(p.Depends, p.PreDepends) {
			d.spoilList(l)
		}
	case 6:
		d.spoilList(p.Conflicts)
	case 7:
		d.spoilList(p.Breaks)
	case 8:
		d.spoilList(p.Provides)
	}
}

// spoilt: the text with some bytes of it changed, taken out or put in, or with a line that stands in it twice.
func (d *drawer) spoilt(s string) string {
	if all := strings.SplitAfter(s, "\n"); d.Intn(6) == 0 {
		k := d.Intn(len(all))
		return strings.Join(all[:k], "") + all[k] + strings.Join(all[k:], "")
	}
	for range 1 + d.Intn(3) {
		k := d.Intn(len(s) + 1)
		put := d.pick(" ", "\n", "\t", ",", "|", "(", ")", "<", "=", ">", "a", "1", "A", "-", ":", "_", "\r", "\xff", "é", "#", "\n\n", "")
		s = s[:k] + put + s[min(len(s), k+d.Intn(2)):]
	}
	return s
}

// without: the list without the element at that place, in new memory.
func without[E any](l []E, at int) []E {
	return slices.Delete(slices.Clone(l), at, at+1)
}
