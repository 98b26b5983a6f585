package repo_test

import (
	"slices"
	"strings"
	"sync"
	"testing"
	"unsafe"

	"depot/api"
	"depot/repo"
)

// whole: the list with all the room behind its end.
func whole[E any](list []E) []E { return list[:cap(list)] }

// some has lists of several lengths in each field.
func some() []api.Package {
	p := api.Package{
		Name: "lib-x+", Version: "0:01-0",
		Depends:    choices(list(rel("aa", "=", "01"), rel("bb"), rel("cc", "<<", "1:2-3")), list(rel("dd")), list(rel("ee"), rel("ff", ">=", "1."))),
		PreDepends: choices(list(rel("gg")), list(rel("hh", ">>", "1~"), rel("ii"))),
		Conflicts:  list(rel("jj"), rel("kk", "<=", "2."), rel("ll")),
		Breaks:     list(rel("mm", "<<", "00"), rel("nn")),
		Provides:   list(rel("oo"), rel("pp", "=", "03"), rel("qq")),
	}
	q := cloned(packs(p))[0]
	q.Name, q.Version = "lib-x+", "2"
	return packs(pack("ab", "1"), p, pack("cd", "1."), q, api.Package{Name: "ef", Version: "1", Depends: choices(list(rel("aa")))})
}

// listsOf: all lists of relations of the packages.
func listsOf(r []api.Package) [][]api.Rel {
	var out [][]api.Rel
	for _, p := range r {
		out = append(out, slices.Concat(p.Depends, p.PreDepends)...)
		out = append(out, p.Conflicts, p.Breaks, p.Provides)
	}
	return out
}

// roomyList: the relations, with others in the room behind their end.
func roomyList(l []api.Rel) []api.Rel {
	return append(slices.Clone(l), rel("behind"), api.Rel{Op: 9})[:len(l)]
}

// roomyChoices: the lists likewise, with others in the room behind their end.
func roomyChoices(l [][]api.Rel) [][]api.Rel {
	var out [][]api.Rel
	for _, list := range l {
		out = append(out, roomyList(list))
	}
	return append(out, list(rel("last")), nil)[:len(l)]
}

// roomy: the packages likewise.
func roomy(r []api.Package) []api.Package {
	var out []api.Package
	for _, p := range r {
		out = append(out, api.Package{Name: p.Name, Version: p.Version, Depends: roomyChoices(p.Depends), PreDepends: roomyChoices(p.PreDepends),
			Conflicts: roomyList(p.Conflicts), Breaks: roomyList(p.Breaks), Provides: roomyList(p.Provides)})
	}
	return append(out, pack("last", "1"), api.Package{})[:len(r)]
}

// sameBehind: are the lists and their next two places the same?
func sameBehind(a, b []api.Rel) bool { return slices.Equal(a[:len(a)+2], b[:len(b)+2]) }

// Memory: what is handed in is only read, nor are the places behind it written; of what is refused, too.
func TestArgumentsStay(t *testing.T) {
	all := [][]api.Package{nil, some(), examplePackages(), packs(pack("ab", "1"), pack("ab", "01")), packs(pack("A", "x"))}
	for _, wrong := range wrongs() {
		for _, p := range wrong {
			all = append(all, packs(p), packs(pack("zz", "1"), p))
		}
	}
	for _, r := range all {
		in, was := roomy(r), roomy(r)
		repo.Formed(in)
		repo.Fault(in)
		repo.Write(in)
		repo.Canon(in)
		repo.Find(in, "lib-x+", "2-0")
		if !same(in[:len(r)+2], was[:len(r)+2]) {
			t.Errorf("written into what came in: %v, was %v", in, was)
		}
		for k := range in {
			p, q := in[k], was[k]
			if !sameChoices(p.Depends[:len(p.Depends)+2], q.Depends[:len(p.Depends)+2]) || !sameChoices(p.PreDepends[:len(p.PreDepends)+2], q.PreDepends[:len(p.PreDepends)+2]) {
				t.Errorf("written behind lists that came in: %v, was %v", p, q)
			}
			if !slices.EqualFunc(listsOf(in[k:k+1]), listsOf(was[k:k+1]), sameBehind) {
				t.Errorf("written behind a list that came in: %v, was %v", p, q)
			}
		}
	}
}

// Memory: nobody remembers what came in: written over, it changes no later answer, nor one given already.
func TestArgumentsAreForgotten(t *testing.T) {
	r := some()
	first := canon(t, r...)
	for _, l := range listsOf(r) {
		spoil(l)
	}
	faulty(t, api.ErrRel, 1, r...)
	for k := range r {
		r[k] = pack("ab", "1")
	}
	faulty(t, api.ErrSame, 1, r...)
	if !same(first, plainCanon(some())) {
		t.Errorf("an answer changed: %v", first)
	}
	r = some()
	formed(t, r...)
	finds(t, r, "cd", "1.0", 2)
	r[2].Name = "xx"
	finds(t, r, "cd", "1.0", -1)
	writes(t, plainWrite(r), r...)
	canons(t, r, plainCanon(r))
}

// spoil writes all over a list and the room behind its end, and lets it grow.
func spoil(l []api.Rel) {
	for k := range whole(l) {
		whole(l)[k] = rel("spoilt", "<<", "")
	}
	for range 20 {
		l = append(l, rel("grown"))
	}
}

// spoilAll writes all over lists of lists, too.
func spoilAll(l [][]api.Rel) {
	for k := range whole(l) {
		spoil(whole(l)[k])
		whole(l)[k] = list(rel("spoilt"))
	}
	for range 20 {
		l = append(l, list(rel("grown")))
	}
}

// answers: calls that answer packages, and what they answer.
func answers() []func() []api.Package {
	return []func() []api.Package{
		func() []api.Package { l, _, _ := repo.Read(plainWrite(some())); return l },
		func() []api.Package { l, _ := repo.Canon(some()); return l },
	}
}

// Memory: what is answered is the caller's, with the room behind its ends; the next call answers the same.
func TestAnswersAreTheCallers(t *testing.T) {
	for _, answer := range answers() {
		one, other := answer(), answer()
		want := cloned(other)
		for k := range one {
			p := one[k]
			spoilAll(p.Depends)
			spoilAll(p.PreDepends)
			spoil(p.Conflicts)
			spoil(p.Breaks)
			spoil(p.Provides)
		}
		for k := range whole(one) {
			whole(one)[k] = pack("spoilt", "1")
		}
		if !same(other, want) || !same(answer(), want) || len(want) != len(some()) {
			t.Errorf("another answer spoilt: %v, was %v", other, want)
		}
	}
	r := some()
	c := canon(t, r...)
	for _, l := range listsOf(c) {
		spoil(l)
	}
	for k := range whole(c) {
		whole(c)[k] = pack("spoilt", "1")
	}
	if !same(r, some()) {
		t.Errorf("what came in spoilt: %v", r)
	}
}

// Memory: no two lists of one answer share anything, nor the room behind their ends.
func TestListsAreApart(t *testing.T) {
	for _, answer := range answers() {
		want := answer()
		for i := range listsOf(want) {
			got := answer()
			before := listsOf(answer())
			spoil(listsOf(got)[i])
			for k, l := range listsOf(got) {
				if k != i && !slices.Equal(l, before[k]) {
					t.Errorf("the list %d spoilt by the list %d: %v", k, i, l)
				}
			}
		}
		for k := range want {
			for _, pre := range []bool{false, true} {
				got, before := answer(), answer()
				of := func(r []api.Package) *[][]api.Rel {
					if pre {
						return &r[k].PreDepends
					}
					return &r[k].Depends
				}
				spoilAll(*of(got))
				*of(got), *of(before) = nil, nil
				if !same(got, before) {
					t.Errorf("spoilt by the lists of %d: %v, was %v", k, got, before)
				}
			}
		}
	}
}

// Memory: no piece of an answer lies in what came in, which it would hold on to.
func TestPiecesAreNew(t *testing.T) {
	within := func(piece, s string) bool {
		at, p := uintptr(unsafe.Pointer(unsafe.StringData(s))), uintptr(unsafe.Pointer(unsafe.StringData(piece)))
		return piece != "" && s != "" && at <= p && p < at+uintptr(len(s))
	}
	pieces := func(r []api.Package) []string {
		var out []string
		for k, p := range r {
			out = append(out, p.Name, p.Version)
			for _, l := range listsOf(r[k : k+1]) {
				for _, one := range l {
					out = append(out, one.Name, one.Version)
				}
			}
		}
		return out
	}
	name, v := strings.Repeat("ab", 40), strings.Repeat("1.", 40)+"0"
	var r []api.Package
	for k, at := range places() {
		p := at.with(rel(name, "=", v), rel(name))
		p.Name, p.Version = name, v+strings.Repeat(".1", k)
		r = append(r, p)
	}
	s := plainWrite(r)
	read, _, _ := repo.Read(s)
	for _, piece := range pieces(read) {
		if within(piece, s) {
			t.Errorf("%q: in the text that came in", piece)
		}
	}
	if !same(read, r) {
		t.Errorf("read was %v, not %v", read, r)
	}
	c := canon(t, r...)
	if !same(c, r) {
		t.Errorf("the canon of %v is %v", r, c)
	}
	for _, piece := range pieces(c) {
		for _, in := range pieces(r) {
			if within(piece, in) {
				t.Errorf("%q: in a text that came in", piece)
			}
		}
	}
}

// answersAgain: each call answers what it always does; said once, if it doesn't.
func answersAgain(t *testing.T) {
	t.Helper()
	if t.Failed() {
		return
	}
	r := some()
	s := plainWrite(r)
	reads(t, s, r...)
	reads(t, example, examplePackages()...)
	refuses(t, s+"\n"+head+"Breaks: aa |\nDepends: A\n", api.ErrName, strings.Count(s, "\n")+2)
	refuses(t, s+"\nVersion: 1\n", api.ErrMissing, strings.Count(s, "\n")+2)
	refuses(t, s+"\n x\n", api.ErrField, strings.Count(s, "\n")+2)
	writes(t, s, r...)
	canons(t, r, plainCanon(r))
	formed(t, r...)
	faulty(t, api.ErrSame, 5, append(r, pack("ef", "01"))...)
	faulty(t, api.ErrRel, 0, append(packs(places()[3].with(rel("aa"), rel("A"))), r...)...)
	finds(t, r, "lib-x+", "02", 3)
	finds(t, r, "lib-x+", "3", -1)
}

// Sameness: the same calls answer the same, refusals too.
func TestSameAgain(t *testing.T) {
	for range 20 {
		answersAgain(t)
	}
}

// Sameness: so they do while others call.
func TestSameBesideOneAnother(t *testing.T) {
	var group sync.WaitGroup
	for range 8 {
		group.Go(func() {
			for range 100 {
				answersAgain(t)
			}
		})
	}
	group.Wait()
}
