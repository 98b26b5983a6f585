package version_test

import (
	"slices"
	"strings"
	"testing"

	"depot/version"
)

// P20.1: the chapter's examples.
func TestLegalExamples(t *testing.T) {
	for _, s := range []string{"1", "0", "1.2-3", "2:1.0~rc1-1", "1-2-3", "1:2:3", "1+b1", "0a", "007:1"} {
		if !version.Legal(s) {
			t.Errorf("%q isn't Legal", s)
		}
	}
	for _, s := range []string{"", "a1", "1-", "-1", ":1", "1:", "a:1", "1_2", "1:2-3:4", "1-2~-", "1 2", "1:a"} {
		illegal(t, s)
	}
	cuts(t, "2:1.0~rc1-1", "2", "1.0~rc1", "1")
	cuts(t, "1-2-3", "", "1-2", "3")
	cuts(t, "1:2:3", "1", "2:3", "")
	cuts(t, "007:1", "007", "1", "")
}

// P20.1: an epoch is digits alone, one at least.
func TestEpochs(t *testing.T) {
	for _, s := range []string{":1", ":", "::1", ":1:1", "+1:1", "-1:1", "a:1", "1a:1", "a1:1", "1.0:1", "1~:1", "1-1:1", " 1:1", "1 :1", "0x1:1", "١:1", "1é:1", "\xff:1", "1\xff:1"} {
		illegal(t, s)
	}
	cuts(t, "0:1", "0", "1", "")
	cuts(t, "0123456789:1", "0123456789", "1", "")
	noughts := strings.Repeat("0", 1000)
	cuts(t, noughts+":1", noughts, "1", "")
	cuts(t, noughts+"1:1-1", noughts+"1", "1", "1")
	nines := strings.Repeat("9", 1000)
	cuts(t, nines+":1", nines, "1", "")
}

// P20.1: what stands ahead of the first colon is the epoch; colons behind it stand in the upstream part, and only there.
func TestColons(t *testing.T) {
	cuts(t, "1:2:3:4", "1", "2:3:4", "")
	cuts(t, "1:2:", "1", "2:", "")
	cuts(t, "1:2::", "1", "2::", "")
	cuts(t, "1:2:-3", "1", "2:", "3")
	cuts(t, "1:2:3-4", "1", "2:3", "4")
	for _, s := range []string{"1:", "1::", "1::2", "1:-", "1:-1", "1:2-:", "1:2-3:", "1:2-3:4", "1:2:3-4:5", "1.0:2:3", "1a:2", "1-2:3", "1-2:3-4"} {
		illegal(t, s)
	}
}

// P20.1: what stands behind the last minus is the revision; the minuses ahead of it stand in the upstream part.
func TestMinuses(t *testing.T) {
	cuts(t, "1-2", "", "1", "2")
	cuts(t, "1--2", "", "1-", "2")
	cuts(t, "1---2", "", "1--", "2")
	cuts(t, "1-a-b-c", "", "1-a-b", "c")
	cuts(t, "0:1-2-3", "0", "1-2", "3")
	for _, s := range []string{"-", "--", "1-", "1--", "1-2-", "-1", "--1", "-1-2", "0:-1", "0:1-", "0:-", "1-2~-"} {
		illegal(t, s)
	}
}

// P20.1: an upstream part begins with a digit; a revision with any of its bytes.
func TestBeginnings(t *testing.T) {
	for _, b := range letters + "+.~" {
		s := string(b)
		for _, ahead := range []string{"", "0:"} {
			for _, behind := range []string{"", "1", "-1", "1-1"} {
				illegal(t, ahead+s+behind)
			}
		}
		cuts(t, "1-"+s, "", "1", s)
		cuts(t, "1-"+s+"1", "", "1", s+"1")
	}
	for _, b := range digits {
		s := string(b)
		cuts(t, s, "", s, "")
		cuts(t, "0:"+s+"a-b", "0", s+"a", "b")
	}
}

// P20.1: each of the 256 bytes in an upstream part, with an epoch and without one, and in a revision.
func TestEachByte(t *testing.T) {
	for n := range 256 {
		b := string([]byte{byte(n)})
		in := func(these string) bool { return strings.Contains(these, b) }
		for s, legal := range map[string]bool{
			"1" + b + "2-3":   in(letters + digits + "+.~-:"), // 1:2-3 has an epoch
			"1a" + b + "2-3":  in(letters + digits + "+.~-"),
			"0:1" + b + "2-3": in(letters + digits + "+.~-:"),
			"0:1" + b:         in(letters + digits + "+.~:"), // nothing stands behind the minus
			"1" + b:           in(letters + digits + "+.~"),
			"1-2" + b + "3":   in(letters + digits + "+.~-"),
			"1-2" + b:         in(letters + digits + "+.~"),
			"1-" + b:          in(letters + digits + "+.~"),
			"1-" + b + "2":    in(letters + digits + "+.~-"),
			"0:1-2" + b + "3": in(letters + digits + "+.~-"),
		} {
			if version.Legal(s) != legal || asWords(t, s) != legal {
				t.Errorf("Legal(%q) isn't %v", s, legal)
			}
		}
	}
}

// P20.1 to P20.4: each byte, and each two of them, at many places of a text.
func TestPairsOfBytes(t *testing.T) {
	for n := range 256 {
		b := string([]byte{byte(n)})
		for _, around := range [][2]string{{"", ""}, {"", "1"}, {"0:", ""}, {"0:", "1"}, {"1", ":1"}, {"", ":1"}, {"1", "-1"}, {"1-", "-1"}, {"1-", ":1"}} {
			asWords(t, around[0]+b+around[1])
		}
		for k := range 256 {
			two := b + string([]byte{byte(k)})
			asWords(t, two)
			asWords(t, "1"+two)
			asWords(t, "0:1"+two+"2")
			asWords(t, "1-"+two)
		}
	}
}

// P20.1: letters and digits are those of the chapter, no others; nor is anything that isn't UTF-8, or is it with more bytes than one.
func TestOtherTexts(t *testing.T) {
	for _, s := range []string{"é", "ß", "١", "٣", "²", "Ⅷ", "１", "Ａ", "ª", "\u00a0", "\u200b", "\u212a", "\ufffd", "\xff", "\xc3", "\xc0\xb1", "\xe2\x82", "\xed\xa0\x80", "\xf4\x90\x80\x80", "\x00", "\U0001d7ce", "\ufeff"} {
		for _, around := range [][2]string{{"", ""}, {"1", ""}, {"", "1"}, {"1", "1"}, {"1-", ""}, {"1-1", "1"}, {"0:1", "-1"}, {"0:", "1"}, {"0", ":1"}, {"", ":1"}} {
			illegal(t, around[0]+s+around[1])
		}
	}
}

// P20.1 to P20.4: every short text is read as the document's words say.
func TestShortTexts(t *testing.T) {
	versions, all := 0, 0
	for _, s := range append(texts(6, "0", "1", "a", "-", ":", "~"), texts(4, "00", "10", "Z", ".", "+", "-", ":", "é", " ", "0:", "-0")...) {
		if asWords(t, s) {
			versions++
		}
		all++
	}
	if versions < 1000 || all-versions < 1000 {
		t.Errorf("%d of %d are versions", versions, all)
	}
}

// P20.1 to P20.4, Any argument: drawn versions, texts with bytes changed, taken out or put in, and bytes that are no text at all.
func TestDrawnTexts(t *testing.T) {
	draw := drawn(1)
	for range 20000 {
		s := draw.version()
		if !asWords(t, s) {
			t.Fatalf("%q is no version", s)
		}
		asWords(t, draw.spoilt(s))
		b := make([]byte, draw.Intn(6))
		for k := range b {
			b[k] = byte(draw.Intn(256))
		}
		asWords(t, s+string(b))
	}
}

// Any argument: texts of a great many bytes, blocks, colons and minuses come to an end soon.
func TestLongTexts(t *testing.T) {
	const n = 1 << 20
	for _, piece := range []string{"0", "1", "a", "~", ".1", "a0", "-1", ":", "-"} {
		long := strings.Repeat(piece, n)
		cuts(t, "0:1"+long+"-1", "0", "1"+long, "1")
		compares(t, "0:1"+long+"-1", "0:1"+long+"-01", 0)
		compares(t, "0:1"+long+"~-1", "0:1"+long+"-1", -1)
		newest(t, 1, "0:1"+long+"-1", "0:1"+long+"+-1", "0:1"+long+"~-1")
	}
	for _, piece := range []string{"0", "1", "a", "~", ".1", "a0"} {
		long := strings.Repeat(piece, n)
		cuts(t, "1"+long, "", "1"+long, "")
		cuts(t, "1-"+long, "", "1", long)
		compares(t, "1-1"+long, "1-1"+long+"+", -1)
	}
	illegal(t, strings.Repeat("1", n)+"_")
	illegal(t, strings.Repeat("1:", n)+"1-")
	illegal(t, strings.Repeat("1-", n))
	illegal(t, strings.Repeat(":", n))
	illegal(t, strings.Repeat("\xff", n))
}

// Any argument: the keys of long texts, too.
func TestLongKeys(t *testing.T) {
	const n = 1 << 20
	noughts, nines, tildes := strings.Repeat("0", n), strings.Repeat("9", n), strings.Repeat("~", n)
	keys(t, noughts+":"+noughts+"-"+noughts, nil, nil, nil, "0")
	keys(t, noughts+nines+":"+noughts+nines+tildes+"-"+noughts+tildes+noughts+nines, row("", nines), row("", nines, tildes, "0"), row("", "0", tildes, nines), nines+":"+nines+tildes+"0-0"+tildes+nines)
	keys(t, "1"+strings.Repeat(".01", n), nil, append(row("", "1"), slices.Repeat(row(".", "1"), n)...), nil, "1"+strings.Repeat(".1", n))
}
