package control_test

import (
	"testing"

	"depot/api"
	"depot/control"
)

// P21.5: the chapter's examples.
func TestGetExamples(t *testing.T) {
	s := stanza(1, "Package", "a")
	gets(t, s, "PACKAGE", "a")
	lacks(t, s, "pack")
}

// P21.5: of names that are alike the first one's field is the one, whatever the letters.
func TestGetAlike(t *testing.T) {
	s := stanza(1, "A", "1", "b", "2", "a", "3", "B", "4", "Pre-Depends", "5", "c", "")
	for _, name := range []string{"A", "a"} {
		gets(t, s, name, "1")
	}
	for _, name := range []string{"B", "b"} {
		gets(t, s, name, "2")
	}
	for _, name := range []string{"Pre-Depends", "pre-depends", "PRE-DEPENDS", "pRe-dEPENDs"} {
		gets(t, s, name, "5")
	}
	gets(t, s, "C", "")
	for _, name := range []string{"", "d", "Pre-Depend", "Pre-Depends ", " A", "A:", "re-Depends", "Pre_Depends", "aa", "ab"} {
		lacks(t, s, name)
	}
}

// P21.5: A to Z are as a to z, and no other byte is as another.
func TestGetBytes(t *testing.T) {
	for a := range 256 {
		for b := range 256 {
			one, other := string([]byte{byte(a)}), string([]byte{byte(b)})
			alike := a == b || a|32 == b|32 && a|32 >= 'a' && a|32 <= 'z'
			for _, around := range [][2]string{{"", ""}, {"x", "y"}, {"\xc3", ""}} {
				s := stanza(1, around[0]+one+around[1], "1", around[0]+other+around[1], "2")
				want := "2"
				if alike {
					want = "1"
				}
				gets(t, s, around[0]+other+around[1], want)
				gets(t, s, around[0]+one+around[1], "1")
			}
		}
	}
}

// P21.5: letters beyond A to Z are alike to none but themselves.
func TestGetOtherLetters(t *testing.T) {
	for _, pair := range [][2]string{{"é", "É"}, {"k", "\u212a"}, {"K", "\u212a"}, {"s", "\u017f"}, {"i", "\u0130"}, {"I", "\u0131"}, {"σ", "ς"}, {"\xff", "\xfe"}, {"\xff", "\ufffd"}, {"ß", "ss"}} {
		lacks(t, stanza(1, pair[0], "1"), pair[1])
		lacks(t, stanza(1, pair[1], "1"), pair[0])
		gets(t, stanza(1, pair[0], "1", pair[1], "2"), pair[1], "2")
	}
	gets(t, stanza(1, "éA", "1"), "éa", "1")
}

// P21.5: of stanzas and names that no text could hold.
func TestGetAny(t *testing.T) {
	for _, s := range []api.Stanza{{}, {Line: -1}, {Fields: []api.Field{}}} {
		for _, name := range []string{"", "A", "\x00", "\xff\n"} {
			lacks(t, s, name)
		}
	}
	s := stanza(-7, "", " none\r\n", "\n", "\x00", "#a\xff:", "\xff", "", "again", " ", "\n\n", "A B", "")
	gets(t, s, "", " none\r\n")
	gets(t, s, "\n", "\x00")
	gets(t, s, "#A\xff:", "\xff")
	gets(t, s, " ", "\n\n")
	gets(t, s, "a b", "")
	lacks(t, s, "\t")
	lacks(t, s, "#A\xfe:")
	lacks(t, stanza(1, "A", "1"), "")
}

// P21.5: of drawn stanzas and names the answer is that of the document's words.
func TestGetAsWords(t *testing.T) {
	draw := drawn(3)
	seen := map[bool]int{}
	for range 30000 {
		var s api.Stanza
		for range draw.Intn(5) {
			s.Fields = append(s.Fields, api.Field{Name: draw.spoilt(draw.pick("A", "a", "bC", "Bc", "", "é")), Value: draw.value()})
		}
		name := draw.spoilt(draw.pick("A", "a", "bC", "BC", ""))
		k, has := plainHas(s, name)
		if has {
			gets(t, s, name, s.Fields[k].Value)
		} else {
			lacks(t, s, name)
		}
		if t.Failed() {
			t.FailNow()
		}
		seen[has]++
	}
	if seen[true] < 1000 || seen[false] < 1000 {
		t.Errorf("found or not: %v", seen)
	}
}

// P21.5: a field that Read answers is found by its name.
func TestGetOfRead(t *testing.T) {
	l, e, _ := control.Read("Package: a\nVERSION: 1\n\npackage:\n x\n")
	if len(l) != 2 || e != api.OK {
		t.Fatalf("%s, %d", shown(l), e)
	}
	gets(t, l[0], "package", "a")
	gets(t, l[0], "Version", "1")
	gets(t, l[1], "Package", "\nx")
	lacks(t, l[1], "Version")
}
