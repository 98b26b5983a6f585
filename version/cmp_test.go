package version_test

import (
	"strings"
	"testing"
)

// P20.2: the chapter's examples.
func TestCmpExamples(t *testing.T) {
	compares(t, "1", "2", -1)
	compares(t, "1.10", "1.9", 1)
	compares(t, "1~rc1", "1", -1)
	compares(t, "1~", "1~~", 1)
	compares(t, "1a", "1", 1)
	compares(t, "1a", "1+", -1)
	compares(t, "1.0", "1.", 0)
	compares(t, "1", "1-0", 0)
	compares(t, "1-1", "1", 1)
	compares(t, "1-1", "1-~", 1)
	compares(t, "1-~", "1", -1)
	compares(t, "0:1", "1", 0)
	compares(t, "1:1", "2", 1)
	compares(t, "01", "1", 0)
	compares(t, "1A", "1a", -1)
	compares(t, "1.5", "1-5", 1)
}

// rises: each of the texts is below all that stand behind it, and as great as itself.
func rises(t *testing.T, l ...string) {
	t.Helper()
	for i, a := range l {
		compares(t, a, a, 0)
		for _, b := range l[i+1:] {
			compares(t, a, b, -1)
		}
	}
}

// P20.2: ~ is below the end of a text, below letters and below all other bytes, at the end and in the midst.
func TestTildes(t *testing.T) {
	for _, around := range [][2]string{{"0:1", ""}, {"0:1", "7"}, {"0:1a", ""}, {"0:1a", "~"}, {"0:1a", "a"}, {"0:1a", "7a"}, {"0:1~", ""}, {"0:1~", "7~"}, {"0:1", "-1"}, {"0:1.", "b.c-1"}} {
		for _, above := range []string{"A", "Z", "a", "z", "+", "-", ".", ":", "A~", "a.", ":~"} {
			s := around[0] + above + around[1]
			if around[1] == "" && above == "-" {
				continue // nothing may stand behind the minus
			}
			rises(t, around[0]+"~~"+around[1], around[0]+"~"+around[1], s)
			rises(t, around[0]+"~"+above+around[1]+"1", s+"1")
		}
	}
	rises(t, "1~~", "1~~a", "1~", "1~a", "1~+", "1", "1a~~", "1a~", "1a~z", "1a", "1aa", "1a+")
	rises(t, "1-~~", "1-~~a", "1-~", "1-~a", "1", "1-a~", "1-a", "1-+~", "1-+")
	rises(t, "1~~1", "1~1", "1")
	rises(t, "1a~", "1a", "1a1")
	rises(t, "1.~1", "1.", "1.1")
}

// P20.2: the end of a text is below the letters, those below all other bytes; among themselves they go by their bytes.
func TestBytesOfTexts(t *testing.T) {
	rank := []string{"~", ""}
	for _, b := range "ABCDEFGHIJKLMNOPQRSTUVWXYZabcdefghijklmnopqrstuvwxyz+-.:" {
		rank = append(rank, string(b))
	}
	for _, around := range [][2]string{{"0:1", "2-3"}, {"0:1x", "2-3"}, {"0:1+", "2-3"}, {"0:1~", "2-3"}, {"0:1x", "-3"}} {
		var all []string
		for _, b := range rank {
			// A number that would stand against a block's text goes behind it by a text of its own.
			if b != "" || around[0] != "0:1" {
				all = append(all, around[0]+b+around[1])
			}
		}
		rises(t, all...)
	}
	var upstream, revision []string
	for _, b := range rank {
		upstream = append(upstream, "0:1"+b+"-0")
		if b != "-" && b != ":" {
			revision = append(revision, "1-0"+b)
		}
	}
	rises(t, upstream...)
	rises(t, revision...)
}

// P20.2: the texts go ahead of the numbers, the first blocks ahead of the later ones.
func TestBlocksInTurn(t *testing.T) {
	rises(t, "1a9", "1aa1", "1ab0", "1b0", "1.0", "2a0", "10")
	rises(t, "1.1.9", "1.2", "1.2.0", "1.2.1", "1.10", "2")
	rises(t, "1a1", "1ab")
	rises(t, "1-1a9", "1-1b0", "1-2")
	rises(t, "1-9", "1.0-0", "2-0")
	rises(t, "9-9", "1:0-0", "1:0-1", "1:1", "2:0")
}

// P20.2: numbers count by what they are worth, however long they are and whatever noughts stand ahead.
func TestNumbers(t *testing.T) {
	noughts := strings.Repeat("0", 300)
	for _, around := range [][2]string{{"", ""}, {"1.", ""}, {"1a", "b"}, {"1-", ""}, {"1-a", "a"}, {"", ":1"}, {"3:", "-1"}} {
		made := func(number string) string { return around[0] + number + around[1] }
		numbers := []string{"0", "1", "2", "9", "10", "11", "19", "20", "90", "99", "100", "2147483647", "2147483648", "4294967295", "4294967296", "9223372036854775807", "9223372036854775808", "18446744073709551615", "18446744073709551616", "18446744073709551617", "99999999999999999999", "100000000000000000000", "1" + noughts, "1" + noughts[1:] + "1", "2" + noughts, strings.Repeat("9", 301), "1" + noughts + "0"}
		var all, ahead []string
		for _, n := range numbers {
			all, ahead = append(all, made(n)), append(ahead, made(noughts+n))
			compares(t, made(n), made("0"+n), 0)
			compares(t, made(n), made(noughts+n), 0)
		}
		rises(t, all...)
		rises(t, ahead...)
	}
	compares(t, "007", "10", -1)
	compares(t, "1.0009", "1.10", -1)
}

// P20.2: the part with fewer blocks goes on with blocks of no text and the number 0, and a number that is missing is 0.
func TestFewerBlocks(t *testing.T) {
	rises(t, "1.5~1", "1.5", "1.5a", "1.5.0", "1.5.1")
	rises(t, "1~1", "1~1a")
	rises(t, "1-1~0", "1-1", "1-1a0")
	compares(t, "1a", "1a0", 0)
	compares(t, "1a", "1a00", 0)
	compares(t, "1a", "1a1", -1)
	compares(t, "1~", "1~0", 0)
	compares(t, "1~", "1~1", -1)
	compares(t, "1-a", "1-a0", 0)
	compares(t, "1-a", "1-a0b", -1)
	compares(t, "1a-0", "1a0", 0)
	compares(t, "0:1:", "0:1:0", 0)
	compares(t, "1--1", "1-0-1", 0)
	compares(t, "0", "00", 0)
	compares(t, "0.0", "0", 1)
}

// P20.2: no revision is as great as 0 and above ~, no epoch as great as 0.
func TestMissingParts(t *testing.T) {
	for _, s := range []string{"1", "0", "1.2a", "1~", "1+b"} {
		compares(t, s, s+"-0", 0)
		compares(t, s, s+"-000", 0)
		compares(t, s, s+"-~", 1)
		compares(t, s, s+"-~9", 1)
		compares(t, s, s+"-0~", 1)
		compares(t, s, s+"-a", -1)
		compares(t, s, s+"-+", -1)
		compares(t, s, s+"-0.", -1)
		compares(t, s, s+"-1", -1)
		compares(t, s, "0:"+s, 0)
		compares(t, s, "000:"+s, 0)
		compares(t, s, "0:"+s+"-0", 0)
		compares(t, s, "1:0~", -1)
		compares(t, s, "01:0~", -1)
	}
}

// P20.2: ErrVersion, if one of them isn't legal, or both aren't.
func TestCmpOfIllegal(t *testing.T) {
	for _, s := range []string{"", "x", "1-", ":1", "1:", "1_2", "1\xff", "1\n"} {
		illegal(t, s)
	}
}

// P20.2: of every two of many versions the answer is that of the document's words.
func TestCmpAsWords(t *testing.T) {
	all := someVersions(4, 300)
	seen := map[int]int{}
	for _, a := range all {
		for _, b := range all {
			c, ok := plainCmp(a, b)
			if !ok {
				t.Fatalf("%q or %q is no version", a, b)
			}
			compares(t, a, b, c)
			seen[c]++
		}
		if t.Failed() {
			t.FailNow()
		}
	}
	if len(seen) != 3 || seen[0] <= len(all) {
		t.Errorf("of %d versions: %v", len(all), seen)
	}
}
