package relation_test

import (
	"math"
	"strings"
	"testing"

	"depot/api"
	"depot/relation"
)

// wantName: is it a name, and a relation's, whatever the operator? A text's, too, if that has no byte by which words end.
func wantName(t *testing.T, s string, may bool) {
	t.Helper()
	if relation.Name(s) != may {
		t.Errorf("Name(%q) isn't %v", s, may)
	}
	if formedAsWords(t, api.Rel{Name: s}) != may {
		t.Errorf("a relation to %q: Formed isn't %v", s, may)
	}
	for op := api.Below; op <= api.Above; op++ {
		if relation.Formed(api.Rel{Name: s, Op: op, Version: "1"}) != may {
			t.Errorf("a relation to %q with the Op %d: Formed isn't %v", s, op, may)
		}
	}
	switch {
	case may:
		reads(t, s, list(rel(s)))
		reads(t, s+"(=1)", list(rel(s, "=", "1")))
	case s != "" && !strings.ContainsAny(s, " \t\n,|()"):
		refuses(t, s, api.ErrName, 0)
		refuses(t, s+"(=1)", api.ErrName, 0)
		refuses(t, "aa (>= 1) ,"+s, api.ErrName, 11)
		readRefuses(t, "aa | "+s, api.ErrName, 5)
	}
}

// P22.1: the chapter's examples.
func TestNameExamples(t *testing.T) {
	for _, s := range []string{"aa", "0ad", "libstdc++6", "a.b-c"} {
		wantName(t, s, true)
	}
	for _, s := range []string{"a", "", "A1", "-a", "a_b", "a b"} {
		wantName(t, s, false)
	}
}

const (
	small  = "abcdefghijklmnopqrstuvwxyz"
	digits = "0123456789"
)

// P22.1: each of the 256 bytes alone, as the first of a name, and later.
func TestNameBytes(t *testing.T) {
	for n := range 256 {
		b := string([]byte{byte(n)})
		first := strings.Contains(small+digits, b)
		later := first || strings.Contains("+-.", b)
		wantName(t, b, false)
		for _, behind := range []string{"a", "0", "+", "-", ".", "abc", "z+-.9"} {
			wantName(t, b+behind, first)
		}
		for _, ahead := range []string{"a", "z", "0", "9", "ab", "a-", "0+."} {
			wantName(t, ahead+b, later)
			wantName(t, ahead+b+"x", later)
			wantName(t, ahead+b+"-", later)
		}
	}
}

// P22.1: of all pairs of bytes those that are names.
func TestNamePairs(t *testing.T) {
	count := 0
	for a := range 256 {
		for b := range 256 {
			s := string([]byte{byte(a), byte(b)})
			want := strings.Contains(small+digits, s[:1]) && strings.Contains(small+digits+"+-.", s[1:])
			if relation.Name(s) != want {
				t.Errorf("Name(%q) isn't %v", s, want)
			}
			if want {
				count++
			}
		}
	}
	if count != 36*39 {
		t.Errorf("%d are names", count)
	}
}

// P22.1: runes beyond one byte, and bytes that are none, are in no name.
func TestNameRunes(t *testing.T) {
	for _, r := range []string{"é", "ａ", "٣", "\u00a0", "\ufffd", "\u2010", "ß", "ſ", "K", "\U0001d41a", "\xff", "\xc3", "\x80"} {
		for _, s := range []string{r, r + "a", "a" + r, "aa" + r, "a" + r + "a", r + r} {
			wantName(t, s, false)
		}
	}
}

// P22.1: long names, and a byte in the midst or at the end that may not be.
func TestNameLong(t *testing.T) {
	for _, n := range []int{2, 3, 255, 256, 1000, 70000} {
		long := repeated(n, "a")
		wantName(t, long, true)
		wantName(t, "0"+long[1:], true)
		wantName(t, long[:n/2]+"+"+long[n/2:], true)
		for _, bad := range []string{"A", "_", "\x00", "é"} {
			wantName(t, long+bad, false)
			wantName(t, long[:n/2]+bad+long[n/2:], false)
			wantName(t, bad+long, false)
		}
		wantName(t, "-"+long, false)
	}
}

// ops: each Op that there is, and many that there aren't.
func ops() []int {
	out := []int{math.MinInt, math.MinInt32, -256, 255, 256, 257, 1 << 16, 1<<32 + 1, math.MaxInt32, math.MaxInt}
	for op := -6; op <= 12; op++ {
		out = append(out, op)
	}
	return out
}

var (
	legal   = []string{"0", "1", "01", "1.2-3", "2:1.0~rc1-1", "1-2-3", "1:2:3", "1+b1", "0a", "007:1", "1-~"}
	illegal = []string{"x", "a1", "1-", "-1", ":1", "1:", "a:1", "1_2", "1:2-3:4", "1 2", " 1", "1 ", "=1", "1)", "1,", "\xff", "1é", "1\x00", " "}
)

// P22.1: each Op, with a version that is legal, one that isn't, and none.
func TestFormedOps(t *testing.T) {
	for _, op := range ops() {
		has := op >= 1 && op <= 5
		for _, v := range legal {
			if formedAsWords(t, api.Rel{Name: "aa", Op: op, Version: v}) != has {
				t.Errorf("Formed with the Op %d and the version %q isn't %v", op, v, has)
			}
		}
		for _, v := range illegal {
			if formedAsWords(t, api.Rel{Name: "aa", Op: op, Version: v}) {
				t.Errorf("Formed with the Op %d and the version %q", op, v)
			}
		}
		if formedAsWords(t, api.Rel{Name: "aa", Op: op}) != (op == 0) {
			t.Errorf("Formed with the Op %d and no version isn't %v", op, op == 0)
		}
	}
}

// P22.1: a name that is none is enough, whatever else there is.
func TestFormedNames(t *testing.T) {
	for _, name := range []string{"", "a", "A1", "-a", "a_b", "a b", "aA", " aa", "aa ", "aa\n", "é", "aa(", "aa,", "aa|bb"} {
		for _, op := range ops() {
			for _, v := range []string{"", "1", "x"} {
				if formedAsWords(t, api.Rel{Name: name, Op: op, Version: v}) {
					t.Errorf("Formed with the name %q, the Op %d and the version %q", name, op, v)
				}
			}
		}
	}
}

// P22.1: of all short names and versions the answer is that of the document's words.
func TestFormedAsWords(t *testing.T) {
	yes := 0
	for _, name := range texts(3, "a", "0", "-", "A", "_") {
		for _, v := range texts(3, "0", "-", ":", "a", " ") {
			for op := -1; op <= 6; op++ {
				if formedAsWords(t, api.Rel{Name: name, Op: op, Version: v}) {
					yes++
				}
			}
		}
	}
	if yes < 1000 {
		t.Errorf("only %d are Formed", yes)
	}
}
