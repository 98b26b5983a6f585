package version_test

import (
	"math/big"
	"testing"

	"depot/api"
	"depot/version"
)

// cmpOf: Cmp of two versions.
func cmpOf(t *testing.T, a, b string) int {
	t.Helper()
	c, e := version.Cmp(a, b)
	if e != api.OK || c < -1 || c > 1 {
		t.Fatalf("Cmp(%q, %q) = %d, %d", a, b, c, e)
	}
	return c
}

// keyOf: Key of a version.
func keyOf(t *testing.T, s string) [][]api.Block {
	t.Helper()
	key, e := version.Key(s)
	if e != api.OK || len(key) != 3 {
		t.Fatalf("Key(%q) = %v, %d", s, key, e)
	}
	return key
}

// canonOf: Canon of a version.
func canonOf(t *testing.T, s string) string {
	t.Helper()
	c, e := version.Canon(s)
	if e != api.OK {
		t.Fatalf("Canon(%q): error %d", s, e)
	}
	return c
}

// cmpKeys: the order of two keys, list by list.
func cmpKeys(a, b [][]api.Block) int {
	for k := range a {
		if c := plainPart(plainOf(a[k]), plainOf(b[k])); c != 0 {
			return c
		}
	}
	return 0
}

// plainOf: a key's list as plain blocks.
func plainOf(l []api.Block) []plainBlock {
	var out []plainBlock
	for _, b := range l {
		n, _ := new(big.Int).SetString(b.Number, 10)
		out = append(out, plainBlock{b.Text, n})
	}
	return out
}

// P20.6, P9, pair by pair: Cmp of two and of the two the other way about are opposites; it is the order of the keys, and 0 just where the keys are the same, and just where the canons are.
func TestPairs(t *testing.T) {
	all := someVersions(4, 300)
	keys, canons := make([][][]api.Block, len(all)), make([]string, len(all))
	for k, s := range all {
		keys[k], canons[k] = keyOf(t, s), canonOf(t, s)
	}
	for i, a := range all {
		for j, b := range all {
			c := cmpOf(t, a, b)
			switch {
			case c != -cmpOf(t, b, a):
				t.Fatalf("Cmp of %q and %q: %d both ways about", a, b, c)
			case i == j && c != 0:
				t.Fatalf("Cmp of %q and itself: %d", a, c)
			case c != cmpKeys(keys[i], keys[j]):
				t.Fatalf("Cmp of %q and %q: %d, of their keys %d", a, b, c, -c)
			case (c == 0) != equalKeys(keys[i], keys[j]):
				t.Fatalf("Cmp of %q and %q: %d, keys %q and %q", a, b, c, keys[i], keys[j])
			case (c == 0) != (canons[i] == canons[j]):
				t.Fatalf("Cmp of %q and %q: %d, canons %q and %q", a, b, c, canons[i], canons[j])
			}
		}
	}
}

// P20.6, P9, three by three: where Cmp of the first two and of the last two isn't above 0, that of the first and the last isn't either.
func TestThrees(t *testing.T) {
	all := someVersions(3, 120)
	table := make([][]int, len(all))
	for i, a := range all {
		for _, b := range all {
			table[i] = append(table[i], cmpOf(t, a, b))
		}
	}
	for i, a := range all {
		for j, b := range all {
			if table[i][j] > 0 {
				continue
			}
			for k, c := range all {
				if table[j][k] <= 0 && table[i][k] > 0 {
					t.Fatalf("%q is not above %q, which is not above %q, but %q is above %q", a, b, c, a, c)
				}
			}
		}
	}
}

// P20.6, P9, drawn ones of more bytes, two and three by three.
func TestDrawnThrees(t *testing.T) {
	draw := drawn(5)
	for range 20000 {
		a, b, c := draw.version(), draw.version(), draw.version()
		ab, bc, ac := cmpOf(t, a, b), cmpOf(t, b, c), cmpOf(t, a, c)
		if ab != -cmpOf(t, b, a) || ab <= 0 && bc <= 0 && ac > 0 || ab >= 0 && bc >= 0 && ac < 0 {
			t.Fatalf("of %q, %q and %q: %d, %d, %d", a, b, c, ab, bc, ac)
		}
		if (ab == 0) != (canonOf(t, a) == canonOf(t, b)) || (ab == 0) != equalKeys(keyOf(t, a), keyOf(t, b)) {
			t.Fatalf("%q and %q: %d, canons %q and %q", a, b, ab, canonOf(t, a), canonOf(t, b))
		}
	}
}

// P20.6: Canon's text is legal and has the same key; so Cmp of the two is 0, and Canon of it is itself.
func TestCanonStays(t *testing.T) {
	changed := 0
	for _, s := range someVersions(5, 5000) {
		c := canonOf(t, s)
		if !version.Legal(c) || !equalKeys(keyOf(t, c), keyOf(t, s)) || cmpOf(t, c, s) != 0 || canonOf(t, c) != c {
			t.Fatalf("Canon(%q) = %q, whose Canon is %q", s, c, canonOf(t, c))
		}
		if c != s {
			changed++
		}
	}
	if changed < 1000 {
		t.Errorf("only %d weren't canonical", changed)
	}
}

// P20.6: what Cut answers, put together with the colon and the minus, is the text.
func TestPiecesTogether(t *testing.T) {
	for _, s := range someVersions(5, 5000) {
		epoch, upstream, revision, e := version.Cut(s)
		if epoch != "" {
			epoch += ":"
		}
		if revision != "" {
			revision = "-" + revision
		}
		if got := epoch + upstream + revision; got != s || e != api.OK {
			t.Fatalf("the pieces of %q are %q, %d", s, got, e)
		}
	}
}
