package repo_test

import (
	"math"
	"slices"
	"strconv"
	"strings"
	"testing"

	"depot/api"
	"depot/repo"
)

// P23.1: the chapter's examples.
func TestFaultExamples(t *testing.T) {
	faulty(t, api.ErrSame, 1, pack("ab", "1"), pack("ab", "01"))
	faulty(t, api.ErrVersion, 1, pack("ab", "1"), pack("cd", "x"))
	faulty(t, api.ErrRel, 0, api.Package{Name: "ab", Version: "1", Depends: choices(nil)})
	faulty(t, api.ErrRel, 0, api.Package{Name: "ab", Version: "1", Provides: list(rel("ij", ">=", "1"))})
	faulty(t, api.ErrName, 0, pack("A", "x"))
}

// P23.1: no packages are well shaped; so are packages with nothing but a name and a version, and such with all that there may be.
func TestFormed(t *testing.T) {
	formed(t)
	formed(t, []api.Package{}...)
	formed(t, pack("ab", "1"))
	formed(t, pack("ab", "1"), pack("ab", "2"), pack("cd", "1"))
	all := api.Package{
		Name: "0.", Version: "1:2:3-~",
		Depends:    choices(list(rel("aa"), rel("aa", "<<", "1"), rel("aa", "<=", "1")), list(rel("bb", "=", "0:1"))),
		PreDepends: choices(list(rel("aa", ">=", "1."), rel("aa", ">>", "1"))),
		Conflicts:  list(rel("aa"), rel("aa", "<<", "1"), rel("aa", "<=", "1"), rel("aa", "=", "1"), rel("aa", ">=", "1"), rel("aa", ">>", "1")),
		Breaks:     list(rel("aa"), rel("aa", "<<", "1"), rel("aa", "<=", "1"), rel("aa", "=", "1"), rel("aa", ">=", "1"), rel("aa", ">>", "1")),
		Provides:   list(rel("aa"), rel("aa", "=", "1"), rel("0.", "=", "1")),
	}
	formed(t, all)
	all.Name = "zz"
	formed(t, pack("ab", "1"), all, pack("zz", "1"))
}

// wrongs: of each kind of fault packages that have it, whatever stands ahead of them.
func wrongs() map[api.Errno][]api.Package {
	out := map[api.Errno][]api.Package{}
	for _, name := range []string{"", "a", "A", "AB", "-a", "a_b", "ab ", " ab", "a\nb", "é", "ab\xff"} {
		out[api.ErrName] = append(out[api.ErrName], pack(name, "1"))
	}
	for _, v := range []string{"", "x", "1-", "-1", ":1", "1:", "1_2", "1 ", " 1", "1\n", "1\xff"} {
		out[api.ErrVersion] = append(out[api.ErrVersion], pack("ab", v))
	}
	for _, at := range places() {
		for _, r := range []api.Rel{{}, rel("a"), rel("A", "=", "1"), {Name: "cd", Version: "1"}, rel("cd", "=", "x"), rel("cd", "=", ""), {Name: "cd", Op: 6, Version: "1"}, {Name: "cd", Op: -1}} {
			out[api.ErrRel] = append(out[api.ErrRel], at.with(r), at.with(r, rel("cd")), at.with(rel("cd"), r), at.with(rel("cd"), rel("ef", "=", "2"), r, rel("ab")))
		}
	}
	none, one := []api.Rel(nil), list(rel("cd"))
	for _, l := range [][][]api.Rel{choices(none), choices(none, one), choices(one, none), choices(one, one, none, one), choices(make([]api.Rel, 0, 3))} {
		out[api.ErrRel] = append(out[api.ErrRel], api.Package{Name: "ab", Version: "1", Depends: l}, api.Package{Name: "ab", Version: "1", PreDepends: l})
		out[api.ErrRel] = append(out[api.ErrRel], api.Package{Name: "ab", Version: "1", Depends: choices(one), PreDepends: l})
	}
	for _, sign := range []string{"<<", "<=", ">=", ">>"} {
		p := api.Package{Name: "ab", Version: "1", Provides: list(rel("cd", sign, "1"))}
		out[api.ErrRel] = append(out[api.ErrRel], p)
		p.Provides = list(rel("ef"), rel("ef", "=", "2"), p.Provides[0], rel("gh"))
		out[api.ErrRel] = append(out[api.ErrRel], p)
	}
	return out
}

// P23.1: each fault alone: in the first package, in the only one, and in later ones.
func TestEachFault(t *testing.T) {
	for want, all := range wrongs() {
		if len(all) < 10 {
			t.Errorf("only %d packages with the fault %d", len(all), want)
		}
		for _, p := range all {
			if e := plainOwn(p); e != want {
				t.Fatalf("%v was to have the fault %d, not %d", p, want, e)
			}
			faulty(t, want, 0, p)
			faulty(t, want, 0, p, pack("cd", "1"))
			faulty(t, want, 1, pack("cd", "1"), p)
			faulty(t, want, 3, pack("cd", "1"), pack("cd", "2"), pack("ab", "0"), p, pack("ef", "1"))
		}
	}
}

// P23.1: of a package with several faults the first is told, in the order of the words; of several packages with faults the first.
func TestFaultsInOrder(t *testing.T) {
	bad := list(rel("A"))
	faulty(t, api.ErrName, 0, api.Package{Name: "A", Version: "x", Conflicts: bad})
	faulty(t, api.ErrName, 0, api.Package{Name: "A", Version: "1", Depends: choices(nil)})
	faulty(t, api.ErrVersion, 0, api.Package{Name: "ab", Version: "x", Depends: choices(bad)})
	faulty(t, api.ErrVersion, 0, api.Package{Name: "ab", Version: "x", Provides: bad})
	faulty(t, api.ErrRel, 1, pack("ab", "1"), api.Package{Name: "ab", Version: "1", Provides: bad})
	faulty(t, api.ErrRel, 1, pack("ab", "1"), api.Package{Name: "ab", Version: "1", PreDepends: choices(nil)})
	faulty(t, api.ErrSame, 1, pack("ab", "1"), pack("ab", "1"), pack("A", "1"))
	all := wrongs()
	for one, wrong := range all {
		for _, other := range all {
			for _, p := range wrong {
				faulty(t, one, 1, pack("zz", "1"), p, other[0], pack("zz", "1"))
			}
		}
	}
}

// P23.1: the same name with a version that is as great, however it is written, wherever it stands; the later one has the fault.
func TestSameTwice(t *testing.T) {
	between := packs(pack("ab", "2"), pack("cd", "1"), pack("ab", "1~"), pack("ab", "1.1"))
	for _, group := range [][]string{{"1", "01", "1-0", "0:1", "00:001-00"}, {"1.0", "1.", "0:1.-0"}, {"1a", "1a0"}, {"0", "00", "0-0"}, {"3:1-~", "03:1-~0"}} {
		for _, v := range group {
			for _, w := range group {
				faulty(t, api.ErrSame, 1, pack("ab", v), pack("ab", w))
				faulty(t, api.ErrSame, 2, pack("cd", v), pack("ab", v), pack("ab", w), pack("ab", v))
				formed(t, pack("ab", v), pack("cd", w))
				for k := range len(between) + 1 {
					far := append(packs(pack("ab", v)), between[:k]...)
					if v != "0" && v[0] != '1' {
						far = append(far, pack("ab", "1.7"))
					}
					faulty(t, api.ErrSame, len(far), append(far, pack("ab", w))...)
				}
			}
			formed(t, pack("ab", v), pack("ab", "9"), pack("ab", "8"))
		}
	}
	for _, pair := range [][2]string{{"1", "2"}, {"1", "1~"}, {"1", "1.0"}, {"1", "1-1"}, {"1", "1:1"}, {"1a", "1A"}, {"1.10", "1.1"}, {"1", "10"}} {
		formed(t, pack("ab", pair[0]), pack("ab", pair[1]))
		formed(t, pack("ab", pair[1]), pack("ab", pair[0]))
	}
	// A name and a version aren't one text.
	formed(t, pack("ab1", "1"), pack("ab", "11"), pack("ab11", "1"))
	formed(t, pack("ab-", "1"), pack("ab", "1"), pack("ab-1", "1"))
}

// P23.1: a package whose own name or version is wrong is told for that, not for another one that is the same.
func TestWrongTwice(t *testing.T) {
	for _, p := range []struct {
		p api.Package
		e api.Errno
	}{{pack("A", "1"), api.ErrName}, {pack("", ""), api.ErrName}, {pack("ab", "x"), api.ErrVersion}, {pack("ab", ""), api.ErrVersion}, {pack("ab", "01-"), api.ErrVersion}} {
		faulty(t, p.e, 0, p.p, p.p)
		faulty(t, p.e, 1, pack("ab", "1"), p.p, p.p)
		faulty(t, p.e, 1, pack("ab", "1"), p.p, pack("ab", "1"))
	}
	faulty(t, api.ErrVersion, 2, pack("ab", "1"), pack("ab", "0"), pack("ab", "x"), pack("ab", "01"))
	faulty(t, api.ErrRel, 0, api.Package{Name: "ab", Version: "1", Breaks: list(rel("a"))}, pack("ab", "1"))
}

// P23.1: each Op there is, and many that there aren't, with a version and without, in each of the five lists.
func TestOps(t *testing.T) {
	ops := []int{math.MinInt, -256, 255, 256, 259, 1 << 16, 1<<32 + 3, math.MaxInt}
	for op := -6; op <= 12; op++ {
		ops = append(ops, op)
	}
	for _, at := range places() {
		for _, op := range ops {
			r := api.Rel{Name: "cd", Op: op}
			wantFormed(t, at.with(r), op == api.Any)
			wantFormed(t, at.with(rel("cd"), r, rel("cd")), op == api.Any)
			r.Version = "1"
			may := op == api.Same || op >= api.Below && op <= api.Above && at.field != "Provides"
			wantFormed(t, at.with(r), may)
			wantFormed(t, at.with(rel("cd"), r, rel("cd")), may)
		}
	}
}

// wantFormed: is the package well shaped, alone and behind another? If not, it has a bad relation.
func wantFormed(t *testing.T, p api.Package, may bool) {
	t.Helper()
	if may {
		formed(t, p)
		formed(t, pack("zz", "1"), p)
		return
	}
	faulty(t, api.ErrRel, 0, p)
	faulty(t, api.ErrRel, 1, pack("zz", "1"), p)
}

// faultAsWords: the fault is what the document's words say; which.
func faultAsWords(t *testing.T, r []api.Package) api.Errno {
	t.Helper()
	e, at := plainFault(r)
	if e == api.OK {
		formed(t, r...)
	} else {
		faulty(t, e, at, r...)
	}
	if t.Failed() {
		t.FailNow()
	}
	return e
}

// wantEach: each of the answers has come often.
func wantEach(t *testing.T, seen map[api.Errno]int, l ...api.Errno) {
	t.Helper()
	for _, e := range l {
		if seen[e] < 100 {
			t.Errorf("the error %d only %d times", e, seen[e])
		}
	}
}

// rows: all lists of up to so many of the packages.
func rows(most int, of ...api.Package) [][]api.Package {
	out := [][]api.Package{nil}
	for from := 0; most > 0; most-- {
		to := len(out)
		for _, row := range out[from:to] {
			for _, p := range of {
				out = append(out, append(slices.Clip(row), p))
			}
		}
		from = to
	}
	return out
}

// P23.1: of all short lists of these packages the answer is that of the document's words.
func TestShortAsWords(t *testing.T) {
	seen := map[api.Errno]int{}
	for _, r := range rows(5, pack("ab", "1"), pack("ab", "01"), pack("ab", "2"), pack("cd", "1"), pack("cd", "2-0"), pack("A", "1"), pack("ab", "x"), api.Package{Name: "cd", Version: "2", Depends: choices(nil)}) {
		seen[faultAsWords(t, r)]++
	}
	wantEach(t, seen, api.OK, api.ErrName, api.ErrVersion, api.ErrRel, api.ErrSame)
}

// P23.1: of many drawn lists, whole ones and spoilt ones.
func TestDrawnAsWords(t *testing.T) {
	draw := drawn(1)
	seen := map[api.Errno]int{}
	for range 15000 {
		r := draw.packages(6)
		if faultAsWords(t, r) != api.OK {
			t.Fatalf("%v was to have no fault", r)
		}
		for range 1 + draw.Intn(3) {
			draw.spoil(r)
		}
		seen[faultAsWords(t, r)]++
	}
	wantEach(t, seen, api.OK, api.ErrName, api.ErrVersion, api.ErrRel, api.ErrSame)
}

// P23.1: lists of very many packages, and very long names and versions, with a fault at their end.
func TestLongLists(t *testing.T) {
	var r []api.Package
	for k := range 50000 {
		r = append(r, pack("ab", strconv.Itoa(k)))
	}
	if !repo.Formed(r) {
		t.Error("a long list isn't Formed")
	}
	for _, p := range []struct {
		p api.Package
		e api.Errno
	}{{pack("ab", "0:0031234-0"), api.ErrSame}, {pack("ab", "50000x_"), api.ErrVersion}, {pack("A", "0"), api.ErrName}} {
		if e, at := repo.Fault(append(r, p.p)); e != p.e || at != len(r) {
			t.Errorf("Fault of a long list and %v = %d, %d", p.p, e, at)
		}
	}
	name, noughts := "ab"+strings.Repeat("a", 100000), strings.Repeat("0", 100000)
	long := packs(pack(name, noughts+"1"), pack(name+"a", "1"), pack(name, "1"+noughts))
	formed(t, long...)
	faulty(t, api.ErrSame, 3, append(long, pack(name, "1"))...)
	faulty(t, api.ErrName, 3, append(long, pack(name+"A", "1"))...)
}
