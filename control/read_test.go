package control_test

import (
	"strconv"
	"strings"
	"testing"

	"depot/api"
)

// P21.1: the chapter's examples.
func TestReadExamples(t *testing.T) {
	reads(t, "Package: a\nVersion:1.0 \n# x\nDepends: b,\n  c\n", stanza(1, "Package", "a", "Version", "1.0", "Depends", "b,\nc"))
	reads(t, "\n\nA: 1\n\nB:\n\n", stanza(3, "A", "1"), stanza(5, "B", ""))
	reads(t, "")
	reads(t, "# x\n \n")
	refuses(t, "A 1\n", api.ErrField, 1)
	refuses(t, ": 1\n", api.ErrField, 1)
	refuses(t, "A : 1\n", api.ErrField, 1)
	refuses(t, "-A: 1\n", api.ErrField, 1)
	refuses(t, " A: 1\n", api.ErrField, 1)
	refuses(t, "A: 1\na: 2\n", api.ErrTwice, 2)
	reads(t, "A: 1\n\na: 2\n", stanza(1, "A", "1"), stanza(3, "a", "2"))
	reads(t, "A: 1\n# b\n\t2\n", stanza(1, "A", "1\n2"))
	refuses(t, "A: 1\n\n 2\n", api.ErrField, 3)
	refuses(t, "A: 1\n\xff\n", api.ErrText, 2)
	refuses(t, "A: 1\r\n", api.ErrText, 1)
	refuses(t, "A: 1\nB: 2\n\x7f", api.ErrText, 3)
	refuses(t, "A 1\n\xff", api.ErrField, 1)
	reads(t, "A:\n b\n", stanza(1, "A", "\nb"))
}

// idles are texts of gaps and remarks alone, each with its lines.
func idles() map[string]int {
	out := map[string]int{}
	for _, s := range []string{
		"", "\n", "\n\n\n", " \n", "\t\n", " \t \n", "#\n", "##\n", "# x\n", "#x: 1\n", "#\t\n", "#é\n", "# x\n \n", "\n#\n\n# A: 1\n\t\n", "#\n# x\n#\n", " \n  \n#\n",
	} {
		out[s] = strings.Count(s, "\n")
	}
	return out
}

// P21.1: texts of gaps and remarks alone have no stanzas.
func TestReadNothing(t *testing.T) {
	for s := range idles() {
		reads(t, s)
		reads(t, strings.TrimSuffix(s, "\n"))
	}
}

// P21.1: gaps and remarks ahead of all and behind all say nothing; a stanza's Line is that of its first field.
func TestIdleAround(t *testing.T) {
	for s, n := range idles() {
		want := stanza(n+1, "A", "1", "B", "2\n3")
		reads(t, s+"A: 1\nB: 2\n 3\n", want)
		reads(t, s+"A: 1\nB: 2\n 3", want)
		for behind := range idles() {
			reads(t, s+"A: 1\nB: 2\n 3\n"+behind, want)
			reads(t, s+"A: 1\nB: 2\n 3\n"+strings.TrimSuffix(behind, "\n"), want)
		}
	}
}

// P21.1: one gap or more part two stanzas, whatever remarks stand around; remarks alone part none.
func TestIdleBetween(t *testing.T) {
	for s, n := range idles() {
		for _, gap := range []string{"\n", " \n", "\t\n", " \t\n"} {
			reads(t, "A: 1\n"+gap+s+"B: 2\n", stanza(1, "A", "1"), stanza(3+n, "B", "2"))
			reads(t, "A: 1\n"+s+gap+"B: 2\n", stanza(1, "A", "1"), stanza(3+n, "B", "2"))
			reads(t, "#\nA: 1\n"+gap+s+"A: 2\n"+s+gap+"a: 3\n"+gap, stanza(2, "A", "1"), stanza(4+n, "A", "2"), stanza(6+2*n, "a", "3"))
		}
	}
	reads(t, "A: 1\n#\n# \n#\n\t2\n#\nB: 2\n#\nC: 3", stanza(1, "A", "1\n2", "B", "2", "C", "3"))
}

// P21.1: the last line's line feed may be there or not, of whatever kind that line is.
func TestLastLine(t *testing.T) {
	for _, end := range []string{"", "\n", "\n\n", "\n ", "\n#", "\n#\n"} {
		reads(t, "A: 1"+end, stanza(1, "A", "1"))
		reads(t, "A:"+end, stanza(1, "A", ""))
		reads(t, "A:1\n 2"+end, stanza(1, "A", "1\n2"))
		reads(t, "A:1\n\nB:"+end, stanza(1, "A", "1"), stanza(3, "B", ""))
		refuses(t, "A: 1\nB"+end, api.ErrField, 2)
		refuses(t, "A: 1\na:"+end, api.ErrTwice, 2)
		refuses(t, "A: 1\n\n 2"+end, api.ErrField, 3)
		refuses(t, "A: 1\n\x01"+end, api.ErrText, 2)
	}
}

// P21.1: a value goes on over lines that begin with a blank, each trimmed, whatever it holds.
func TestGoesOn(t *testing.T) {
	reads(t, "A: 1\n 2\n\t3\n \t 4 \t\n", stanza(1, "A", "1\n2\n3\n4"))
	reads(t, "A:\n 1\n  2\nB: \t\n\t3\n", stanza(1, "A", "\n1\n2", "B", "\n3"))
	reads(t, "A: 1\nB: 2\n 3\nC: 4\n 5\n", stanza(1, "A", "1", "B", "2\n3", "C", "4\n5"))
	reads(t, "A: 1\n 2\n\nB:\n 3\n", stanza(1, "A", "1\n2"), stanza(4, "B", "\n3"))
	for _, piece := range []string{"#", "# x", "B: 2", "A: 1", ":", "-", "-B: 2", "x", "x \t y", "é", "\ufffd", ".", "\u00a0", "\u0085"} {
		reads(t, "A: 1\n "+piece+"\n", stanza(1, "A", "1\n"+piece))
		reads(t, "A:\n\t"+piece+"\nB:", stanza(1, "A", "\n"+piece, "B", ""))
		reads(t, "A: "+piece+"\n \t"+piece+"\t \n "+piece, stanza(1, "A", piece+"\n"+piece+"\n"+piece))
	}
}

// P21.1: remarks in the midst of a value aren't in it.
func TestRemarkInValue(t *testing.T) {
	reads(t, "A: 1\n# b\n\t2\n#\n# c\n 3\n#d\nB: 4\n", stanza(1, "A", "1\n2\n3", "B", "4"))
	reads(t, "A:\n#\n 1\n#", stanza(1, "A", "\n1"))
}

// P21.1: a line that goes on ahead of all fields or behind a gap has nothing to go on with.
func TestGoesOnNowhere(t *testing.T) {
	for _, s := range []string{" x", "\tx", " A: 1", "\tA: 1", "  A: 1", " #", " :", "\t-"} {
		refuses(t, s, api.ErrField, 1)
		refuses(t, s+"\nA: 1\n", api.ErrField, 1)
		refuses(t, "\n"+s+"\n", api.ErrField, 2)
		refuses(t, "#\n \n#\n"+s, api.ErrField, 4)
		refuses(t, "A: 1\n\n"+s+"\n", api.ErrField, 3)
		refuses(t, "A: 1\n \t\n#\n"+s+"\n", api.ErrField, 4)
		refuses(t, "A: 1\n 2\n\n\n"+s+"\nB: 1\n", api.ErrField, 5)
	}
}

// P21.1: a line that would be a field has a name ahead of its first colon.
func TestNoField(t *testing.T) {
	for _, s := range []string{
		"A", "A 1", "A=1", "-", ":", "::", ":A", ": 1", ":A: 1", "A : 1", "A\t: 1", "A B: 1", "A\tB: 1", "-A: 1", "-: 1", "--: 1", "é: 1", "Aé: 1", "\u00a0: 1", "\ufeffA: 1", "\ufffd:", "A\u0080: 1", "é",
	} {
		refuses(t, s, api.ErrField, 1)
		refuses(t, s+"\nB: 1\n", api.ErrField, 1)
		refuses(t, "#\n\n"+s+"\n", api.ErrField, 3)
		refuses(t, "B: 1\n"+s+"\n", api.ErrField, 2)
		refuses(t, "B: 1\n 2\n"+s, api.ErrField, 3)
		refuses(t, "B: 1\n\n#\n"+s, api.ErrField, 4)
	}
}

// P21.1: which bytes may stand in a name, as its first and behind that.
func TestNames(t *testing.T) {
	for b := range 256 {
		c := string([]byte{byte(b)})
		switch {
		case b == '\n' || b == ':':
			continue
		case b < 32 && b != '\t' || b > 126:
			refuses(t, c+": 1", api.ErrText, 1)
			refuses(t, "x"+c+": 1", api.ErrText, 1)
			continue
		case b == ' ' || b == '\t' || b == '-':
			refuses(t, c+": 1", api.ErrField, 1)
		case b == '#':
			reads(t, c+": 1")
		default:
			reads(t, c+": 1", stanza(1, c, "1"))
		}
		if b == ' ' || b == '\t' {
			refuses(t, "x"+c+": 1", api.ErrField, 1)
		} else {
			reads(t, "x"+c+": 1", stanza(1, "x"+c, "1"))
			reads(t, "x"+c+"y:1", stanza(1, "x"+c+"y", "1"))
		}
	}
	reads(t, "A#: 1\nA-: 2\n~!\"$%: 3\n/\\: 4\n", stanza(1, "A#", "1", "A-", "2", "~!\"$%", "3", "/\\", "4"))
}

// P21.1: the first colon ends the name; those behind it are the value's.
func TestColons(t *testing.T) {
	reads(t, "A::\n", stanza(1, "A", ":"))
	reads(t, "A:b:c\n", stanza(1, "A", "b:c"))
	reads(t, "A: : b: \n", stanza(1, "A", ": b:"))
	reads(t, "A: B: 1\n", stanza(1, "A", "B: 1"))
	reads(t, "A:\n :\n", stanza(1, "A", "\n:"))
}

// P21.1: blanks around a value aren't its own; within it they are, and other spaces are no blanks.
func TestBlanks(t *testing.T) {
	for _, ahead := range []string{"", " ", "\t", "  ", " \t \t"} {
		for _, behind := range []string{"", " ", "\t", "  ", "\t \t "} {
			reads(t, "A:"+ahead+"1"+behind+"\nB:"+ahead+behind+"\n", stanza(1, "A", "1", "B", ""))
			reads(t, "A:"+ahead+"1 \t 2"+behind+"\n "+ahead+"3\t4"+behind, stanza(1, "A", "1 \t 2\n3\t4"))
			reads(t, "A:"+ahead+"\u00a01\u2003"+behind, stanza(1, "A", "\u00a01\u2003"))
		}
	}
}

// P21.1: no two names of one stanza are alike; those of two may be.
func TestTwice(t *testing.T) {
	for b := byte('A'); b <= 'Z'; b++ {
		capital, small := string([]byte{b}), string([]byte{b + 32})
		for _, pair := range [][2]string{{capital, small}, {small, capital}, {small, small}, {capital, capital}, {"x" + capital + "-", "X" + small + "-"}} {
			refuses(t, pair[0]+": 1\n"+pair[1]+": 1\n", api.ErrTwice, 2)
			refuses(t, "#\n"+pair[0]+":\n 2\n#\nother: 2\n#\n"+pair[1]+":", api.ErrTwice, 7)
			reads(t, pair[0]+": 1\n \n"+pair[1]+": 2\n", stanza(1, pair[0], "1"), stanza(3, pair[1], "2"))
			refuses(t, pair[0]+": 1\n\nother:\n"+pair[1]+": 2\n\nthird:\n"+pair[0]+":\n"+pair[1]+": 3\n", api.ErrTwice, 8)
		}
	}
	// The pairs that are A and a's distance apart, but no letters.
	reads(t, "@:1\n`:2\n[:3\n{:4\n\\:5\n|:6\n]:7\n}:8\n^:9\n~:10\n", stanza(1, "@", "1", "`", "2", "[", "3", "{", "4", "\\", "5", "|", "6", "]", "7", "}", "8", "^", "9", "~", "10"))
	reads(t, "A:\nAA:\naaa:\nB:\n", stanza(1, "A", "", "AA", "", "aaa", "", "B", ""))
	refuses(t, "A:\nB:\nC:\nb:\nA:\n", api.ErrTwice, 4)
}

// P21.1: a text of many lines, of many fields, and of a value that goes on for long.
func TestReadLarge(t *testing.T) {
	const n = 200000
	var lines, fields, parted strings.Builder
	lines.WriteString("A:\n")
	want := stanza(1)
	var stanzas []api.Stanza
	for k := range n {
		lines.WriteString(" x\n")
		name := "F" + strconv.Itoa(k)
		fields.WriteString(name + ": 1\n")
		parted.WriteString("F: 1\n\n")
		want.Fields = append(want.Fields, api.Field{Name: name, Value: "1"})
		stanzas = append(stanzas, stanza(2*k+1, "F", "1"))
	}
	reads(t, lines.String(), stanza(1, "A", strings.Repeat("\nx", n)))
	reads(t, fields.String(), want)
	reads(t, parted.String(), stanzas...)
	refuses(t, fields.String()+"f0: 1\n", api.ErrTwice, n+1)
	refuses(t, lines.String()+"a:\n", api.ErrTwice, n+2)
	refuses(t, parted.String()+" x", api.ErrField, 2*n+1)
	long := strings.Repeat("x", n)
	reads(t, long+":"+long+"\n"+strings.Repeat(" ", n)+long, stanza(1, long, long+"\n"+long))
}
