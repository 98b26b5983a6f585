package relation_test

import (
	"testing"

	"depot/api"
	"depot/relation"
)

// P22.4: the chapter's examples.
func TestHoldsExamples(t *testing.T) {
	holds(t, rel("aa", ">=", "1.0"), "1.", true)
	holds(t, rel("aa", ">>", "1"), "1-0", false)
	holds(t, rel("aa"), "0", true)
	holdsNot(t, rel("a"), "0", api.ErrShape)
	holdsNot(t, rel("aa"), "x", api.ErrVersion)
	holdsNot(t, api.Rel{Name: "aa", Version: "1"}, "0", api.ErrShape)
}

// P22.4: each Op at a version below, as great, as great but written otherwise, and above.
func TestHoldsOps(t *testing.T) {
	for _, x := range []struct{ below, same, other, above string }{
		{"1", "2", "02", "3"},
		{"1.9", "1.10", "1.010", "1.11"},
		{"1~rc1", "1", "1-0", "1a"},
		{"9", "1:0", "01:00-0", "1:0.1"},
		{"1-~", "1", "0:1", "1-1"},
		{"1.", "1.1", "1.01", "1.2"},
		{"0~", "0", "000:0-00", "0+"},
		{"2:1", "2:1:1", "02:1:1-0", "2:1:2"},
	} {
		for _, same := range []string{x.same, x.other} {
			for op, want := range map[string][3]bool{"<<": {true, false, false}, "<=": {true, true, false}, "=": {false, true, false}, ">=": {false, true, true}, ">>": {false, false, true}} {
				r := rel("aa", op, same)
				holds(t, r, x.below, want[0])
				holds(t, r, x.same, want[1])
				holds(t, r, x.other, want[1])
				holds(t, r, x.above, want[2])
			}
		}
		for _, v := range []string{x.below, x.same, x.other, x.above} {
			holds(t, rel("aa"), v, true)
		}
	}
}

// P22.4: ErrShape goes ahead of ErrVersion; each comes with each Op.
func TestHoldsRefuses(t *testing.T) {
	for op := api.Any; op <= api.Above; op++ {
		good := api.Rel{Name: "aa", Op: op, Version: "1"}
		if op == api.Any {
			good.Version = ""
		}
		for _, v := range illegal {
			holdsNot(t, good, v, api.ErrVersion)
		}
		holdsNot(t, good, "", api.ErrVersion)
		wrong := []api.Rel{{Name: "a", Op: good.Op, Version: good.Version}, {Name: "AA", Op: good.Op, Version: good.Version}, {Op: good.Op, Version: good.Version}, {Name: "aa", Op: op, Version: "x"}, {Name: "aa", Op: op + 6, Version: good.Version}, {Name: "aa", Op: op - 6, Version: good.Version}}
		if op != api.Any {
			wrong = append(wrong, api.Rel{Name: "aa", Op: op})
		}
		for _, r := range wrong {
			for _, v := range []string{"0", "1", "2", "", "x", "1-"} {
				holdsNot(t, r, v, api.ErrShape)
			}
		}
	}
}

// P22.4: the name counts for nothing.
func TestHoldsOfNames(t *testing.T) {
	for _, name := range []string{"aa", "0ad", "libstdc++6", "a.b-c", "zz", "1.0"} {
		for _, v := range []string{"0", "1", "01", "2"} {
			for op := api.Any; op <= api.Above; op++ {
				r := api.Rel{Name: "aa", Op: op}
				if op != api.Any {
					r.Version = "1"
				}
				want, _ := plainHolds(r, v)
				r.Name = name
				holds(t, r, v, want)
			}
		}
	}
}

// someVersions: short ones, many of them as great as others, and some drawn ones.
func someVersions() []string {
	out := []string{"0", "00", "0~", "0-0", "1", "01", "1.", "1.0", "1.0-0", "1.0-1", "1~", "1~~", "1a", "1A", "1+", "1-1", "1-~", "0:1", "1:0", "1:1", "01:1-00", "1:1:1", "2", "10", "9"}
	draw := drawn(3)
	for range 40 {
		out = append(out, draw.version())
	}
	return out
}

// P22.4, P22.5: of a version and a relation that isn't Any, just one of Below, Same and Above holds; AtMost is Below or Same, AtLeast is Above or Same.
func TestHoldsJustOne(t *testing.T) {
	for _, a := range someVersions() {
		for _, b := range someVersions() {
			var ok [6]bool
			count := 0
			for op := api.Below; op <= api.Above; op++ {
				r := api.Rel{Name: "aa", Op: op, Version: b}
				var e api.Errno
				ok[op], e = relation.Holds(r, a)
				want, _ := plainHolds(r, a)
				if ok[op] != want || e != api.OK {
					t.Errorf("Holds(%v, %q) = %v, %d", r, a, ok[op], e)
				}
			}
			for _, op := range []int{api.Below, api.Same, api.Above} {
				if ok[op] {
					count++
				}
			}
			if count != 1 || ok[api.AtMost] != (ok[api.Below] || ok[api.Same]) || ok[api.AtLeast] != (ok[api.Above] || ok[api.Same]) {
				t.Errorf("of %q and %q there hold %v", a, b, ok)
			}
		}
	}
}

// P22.4: of drawn relations, whole ones and spoilt ones, the answer is that of the document's words.
func TestHoldsAsWords(t *testing.T) {
	draw := drawn(4)
	seen := map[api.Errno]int{}
	for range 30000 {
		r, v := draw.relation(), draw.version()
		switch draw.Intn(8) {
		case 0:
			r.Version = draw.spoilt(r.Version)
		case 1:
			r.Op = draw.Intn(9) - 1
		case 2:
			v = draw.spoilt(v)
		}
		want, e := plainHolds(r, v)
		if e == api.OK {
			holds(t, r, v, want)
		} else {
			holdsNot(t, r, v, e)
		}
		seen[e]++
	}
	for _, e := range []api.Errno{api.OK, api.ErrShape, api.ErrVersion} {
		if seen[e] < 100 {
			t.Errorf("the error %d only %d times", e, seen[e])
		}
	}
}
