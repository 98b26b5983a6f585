package lits_test

import (
	"slices"
	"testing"

	"depot/api"
	"depot/lits"
)

// beyond is the least number above all literals.
const beyond = api.MaxVar + 1

// lists: all lists of up to so many of these numbers.
func lists(most int, numbers ...int) [][]int {
	all := [][]int{nil}
	for from := 0; most > 0; most-- {
		to := len(all)
		for _, c := range all[from:to] {
			for _, l := range numbers {
				all = append(all, append(slices.Clone(c), l))
			}
		}
		from = to
	}
	return all
}

// isLiteral says by the document's words, and without the package, what a literal is.
func isLiteral(l int) bool {
	return 1 <= l && l <= 1048576 || -1048576 <= l && l <= -1
}

// tidied: Tidy by its words, of lists whose variables are 1 to 4 and MaxVar.
func tidied(c []int) []int {
	var out []int
	for _, v := range []int{1, 2, 3, 4, api.MaxVar} {
		for _, l := range []int{v, -v} {
			if slices.Contains(c, l) {
				out = append(out, l)
			}
		}
	}
	return out
}

func allLiterals(c []int) bool {
	return !slices.ContainsFunc(c, func(l int) bool { return !isLiteral(l) })
}

// within: does each element of a stand in b?
func within(a, b []int) bool {
	return !slices.ContainsFunc(a, func(l int) bool { return !slices.Contains(b, l) })
}

// some: short lists of everything that differs: twice, opposites, the greatest variable, no literals.
func some() [][]int {
	return append(lists(4, 1, -1, 2, -2, 0), lists(3, 3, -3, api.MaxVar, -api.MaxVar, beyond, -beyond)...)
}

func same(t *testing.T, what string, got, want []int) {
	t.Helper()
	if !slices.Equal(got, want) {
		t.Errorf("%s: %v, not %v", what, got, want)
	}
}

// P1.2.
func TestSound(t *testing.T) {
	for _, c := range [][]int{nil, {}, {3, 3}, {1, -1}, {api.MaxVar, -api.MaxVar}} {
		if !lits.Sound(c) {
			t.Errorf("Sound(%v): false", c)
		}
	}
	for _, l := range noLiterals {
		for _, c := range [][]int{{l}, {l, 1}, {1, l}, {1, l, 2}, {l, l}} {
			if lits.Sound(c) {
				t.Errorf("Sound(%v): true", c)
			}
		}
	}
}

// P1.2.
func TestHas(t *testing.T) {
	for _, x := range []struct {
		c    []int
		l    int
		want bool
	}{
		{[]int{0, 2}, 2, true},
		{[]int{2, beyond}, 2, true},
		{[]int{5, 3, 5}, 5, true},
		{[]int{-api.MaxVar}, -api.MaxVar, true},
		{[]int{-api.MaxVar}, api.MaxVar, false},
		{[]int{2}, -2, false},
		{[]int{2}, 3, false},
		{nil, 1, false},
		{nil, 0, false},
	} {
		if got := lits.Has(x.c, x.l); got != x.want {
			t.Errorf("Has(%v, %d): %v", x.c, x.l, got)
		}
	}
	for _, l := range noLiterals {
		if lits.Has([]int{1, l, 2}, l) {
			t.Errorf("Has: %d is no literal", l)
		}
	}
}

// P1.2.
func TestTaut(t *testing.T) {
	for _, c := range [][]int{{4, 0, -4}, {-1, 1}, {3, 2, 1, 7, -2}, {api.MaxVar, 1, -api.MaxVar}, {beyond, 1, -1}, {1, 1, -1, -1}} {
		if !lits.Taut(c) {
			t.Errorf("Taut(%v): false", c)
		}
	}
	for _, c := range [][]int{nil, {4, 4}, {0, 0}, {1, -2}, {-1, 2}, {1, 2, 3}, {beyond, -beyond}, {noLiterals[4], noLiterals[4]}, {noLiterals[3], noLiterals[5]}} {
		if lits.Taut(c) {
			t.Errorf("Taut(%v): true", c)
		}
	}
}

// P1.2 and P1.3 by their words.
func TestListsByWords(t *testing.T) {
	for _, c := range some() {
		if got := lits.Sound(c); got != allLiterals(c) {
			t.Fatalf("Sound(%v): %v", c, got)
		}
		want := tidied(c)
		if got := lits.Tidy(c); !slices.Equal(got, want) {
			t.Fatalf("Tidy(%v): %v, not %v", c, got, want)
		}
		taut := slices.ContainsFunc(want, func(l int) bool { return slices.Contains(want, -l) })
		if got := lits.Taut(c); got != taut {
			t.Fatalf("Taut(%v): %v", c, got)
		}
		for _, l := range []int{0, 1, -1, 2, -2, 3, 4, api.MaxVar, -api.MaxVar, beyond, -beyond} {
			if got := lits.Has(c, l); got != slices.Contains(want, l) {
				t.Fatalf("Has(%v, %d): %v", c, l, got)
			}
			less := slices.DeleteFunc(slices.Clone(want), func(other int) bool { return other == l })
			if got := lits.Without(c, l); !slices.Equal(got, less) {
				t.Fatalf("Without(%v, %d): %v, not %v", c, l, got, less)
			}
		}
	}
}

// P1.3, of lists that are no short ones.
func TestTidyLong(t *testing.T) {
	var c, want []int
	for i := range 5000 {
		k := i * 7919 % 5000 // each number below 5000 once, out of order
		c = append(c, lits.At(k), lits.At(4999-k))
		want = append(want, lits.At(i))
	}
	same(t, "Tidy", lits.Tidy(c), want)
	same(t, "Without the first", lits.Without(c, 1), want[1:])
	same(t, "Without the last", lits.Without(c, -2500), want[:4999])
	same(t, "Join", lits.Join(c[:6000], c[4000:]), want)
	same(t, "Tidy beside what is no literal", lits.Tidy(slices.Concat(noLiterals, c, noLiterals)), want)
	if !lits.Taut(c) || !lits.Same(c, want) || !lits.Subsumes(c, want) || lits.Subsumes(c, want[1:]) {
		t.Error("Taut, Same or Subsumes of a long list")
	}
}

// P1.3: the edges of Without.
func TestWithout(t *testing.T) {
	same(t, "a literal that stands there twice", lits.Without([]int{3, -1, 3}, 3), []int{-1})
	same(t, "one that doesn't", lits.Without([]int{3, -1}, 1), []int{-1, 3})
	same(t, "the only one", lits.Without([]int{5}, 5), nil)
	same(t, "of nothing", lits.Without(nil, 5), nil)
	for _, l := range noLiterals {
		same(t, "what is no literal", lits.Without([]int{3, l, 1, l}, l), []int{1, 3})
	}
}

// P1.3 and P1.4 by their words: Join, Same, Subsumes of two lists.
func TestPairsByWords(t *testing.T) {
	all := append(lists(3, 1, -1, 2, 0), lists(2, 2, -2, api.MaxVar, beyond)...)
	for _, a := range all {
		for _, b := range all {
			want := tidied(slices.Concat(a, b))
			if got := lits.Join(a, b); !slices.Equal(got, want) {
				t.Fatalf("Join(%v, %v): %v, not %v", a, b, got, want)
			}
			sound := allLiterals(a) && allLiterals(b)
			if got := lits.Same(a, b); got != (sound && within(a, b) && within(b, a)) {
				t.Fatalf("Same(%v, %v): %v", a, b, got)
			}
			if got := lits.Subsumes(a, b); got != (sound && within(a, b)) {
				t.Fatalf("Subsumes(%v, %v): %v", a, b, got)
			}
		}
	}
}

// P1.4: lists that aren't sound are neither the same nor subsumed.
func TestComparedUnsound(t *testing.T) {
	for _, l := range noLiterals {
		for _, x := range [][2][]int{{{l}, {l}}, {{1, l}, {1}}, {{1}, {1, l}}, {nil, {l}}, {{l}, nil}} {
			if lits.Same(x[0], x[1]) {
				t.Errorf("Same(%v, %v): true", x[0], x[1])
			}
			if lits.Subsumes(x[0], x[1]) {
				t.Errorf("Subsumes(%v, %v): true", x[0], x[1])
			}
		}
	}
	if !lits.Same(nil, []int{}) || !lits.Subsumes(nil, nil) || !lits.Subsumes(nil, []int{5}) || lits.Subsumes([]int{5}, nil) {
		t.Error("Same or Subsumes of the empty list")
	}
}
