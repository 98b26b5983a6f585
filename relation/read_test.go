package relation_test

import (
	"slices"
	"testing"

	"depot/api"
)

// P22.2: the chapter's examples.
func TestReadExamples(t *testing.T) {
	reads(t, "libc6 (>= 2.4), a1|b2 ( <<1:2-3 )", list(rel("libc6", ">=", "2.4")), list(rel("a1"), rel("b2", "<<", "1:2-3")))
	reads(t, "")
	reads(t, " \n")
	reads(t, "aa, bb", list(rel("aa")), list(rel("bb")))
	listRefuses(t, "aa | bb", api.ErrRel, 3)
}

// P22.2: the empty text, and gaps alone.
func TestNothingButGaps(t *testing.T) {
	for _, s := range texts(5, " ", "\t", "\n") {
		reads(t, s)
	}
	reads(t, repeated(1<<20, " ", "\t", "\n"))
}

// somePieces have each kind of piece ahead of and behind each kind that may stand there; without bars, if there are to be none.
func somePieces(bars bool) ([]string, [][]api.Rel) {
	l := [][]api.Rel{{rel("aa")}, {rel("bb", "<<", "1")}, {rel("cc", "=", "2:3-4")}, {rel("dd")}, {rel("ee")}}
	if bars {
		l = [][]api.Rel{{rel("aa"), rel("bb"), rel("cc", "<=", "1~")}, {rel("dd", ">=", "2"), rel("ee", ">>", "3")}, {rel("ff", "=", "1"), rel("gg")}, {rel("hh")}, {rel("ii", "=", "0")}}
	}
	return piecesOf(l), l
}

// P22.2, P22.5: gaps of each kind ahead of, behind and between any two pieces; none where none need be.
func TestGapsAnywhere(t *testing.T) {
	for _, bars := range []bool{false, true} {
		pieces, want := somePieces(bars)
		reads(t, spread(pieces, func() string { return "" }), want...)
		for _, gap := range texts(3, " ", "\t", "\n") {
			reads(t, spread(pieces, func() string { return gap }), want...)
			for here := range len(pieces) + 1 {
				k := 0
				at := func() string {
					if k++; k-1 == here {
						return gap
					}
					return ""
				}
				reads(t, spread(pieces, at), want...)
			}
		}
	}
}

// P22.2: no other byte is a gap.
func TestNoGaps(t *testing.T) {
	for _, no := range []string{"\r", "\v", "\f", "\x00", "\x1f", "\x7f", "\x85", "\xa0", "\u0085", "\u00a0", "\u2028", "\u3000", "\ufeff"} {
		refuses(t, no, api.ErrName, 0)
		refuses(t, no+"aa", api.ErrName, 0)
		refuses(t, "aa"+no, api.ErrName, 0)
		refuses(t, " aa , bb"+no+",cc", api.ErrName, 6)
		refuses(t, "aa "+no, api.ErrRel, 3)
		refuses(t, "aa,"+no+"bb", api.ErrName, 3)
		refuses(t, "aa ("+no+"= 1)", api.ErrRel, 4)
		refuses(t, "aa (="+no+"1)", api.ErrVersion, 5)
		refuses(t, "aa (= 1"+no+")", api.ErrVersion, 6)
		refuses(t, "aa (= 1)"+no, api.ErrRel, 8)
		refuses(t, "aa (= 1)"+no+",bb", api.ErrRel, 8)
	}
}

// P22.2: no piece has a gap within it.
func TestGapsWithin(t *testing.T) {
	for _, gap := range []string{" ", "\t", "\n", " \n", "\t \t"} {
		n := len(gap)
		refuses(t, "aa"+gap+"bb", api.ErrRel, 2+n)
		refuses(t, "a"+gap+"a", api.ErrName, 0)
		refuses(t, "aa"+gap+"b, cc", api.ErrRel, 2+n)
		refuses(t, "aa (<"+gap+"< 1)", api.ErrRel, 4)
		refuses(t, "aa (="+gap+"< 1)", api.ErrVersion, 5+n)
		refuses(t, "aa (<="+gap+"=1)", api.ErrVersion, 6+n)
		refuses(t, "aa (= 1"+gap+"2)", api.ErrRel, 7+n)
		refuses(t, "aa (= 1:"+gap+"2)", api.ErrVersion, 6)
		refuses(t, "aa (= 1"+gap+"-2)", api.ErrRel, 7+n)
	}
}

// P22.2: each operator, in relations of one list and of several.
func TestOperators(t *testing.T) {
	for op := api.Below; op <= api.Above; op++ {
		sign := signOf(op)
		for _, v := range legal {
			one := api.Rel{Name: "aa", Op: op, Version: v}
			reads(t, "aa ("+sign+" "+v+")", list(one))
			reads(t, "aa("+sign+v+")", list(one))
			reads(t, "bb,aa("+sign+v+"),cc", list(rel("bb")), list(one), list(rel("cc")))
			reads(t, "bb|aa("+sign+v+")|cc", list(rel("bb"), one, rel("cc")))
		}
	}
}

// P22.2: all runs of up to five of their bytes, of which five are operators.
func TestRuns(t *testing.T) {
	found := 0
	for _, run := range texts(5, "<", "=", ">")[1:] {
		op := 1 + slices.IndexFunc([]string{"<<", "<=", "=", ">=", ">>"}, func(sign string) bool { return sign == run })
		for _, gap := range []string{"", " ", "\n\t"} {
			ahead := "aa (" + gap
			if op > 0 {
				reads(t, ahead+run+gap+"1)", list(api.Rel{Name: "aa", Op: op, Version: "1"}))
				refuses(t, ahead+run+gap, api.ErrRel, len(ahead+run+gap))
				found++
				continue
			}
			refuses(t, ahead+run+gap+"1)", api.ErrRel, len(ahead))
			refuses(t, ahead+run+gap+"1", api.ErrRel, len(ahead))
			refuses(t, ahead+run, api.ErrRel, len(ahead))
			refuses(t, ahead+run+")", api.ErrRel, len(ahead))
		}
	}
	if found != 5*3 {
		t.Errorf("operators in %d texts", found)
	}
}

// P22.2: what is no run of these bytes at all stands where an operator should be.
func TestNoRuns(t *testing.T) {
	for _, no := range []string{"1", "aa", "!=", "~", "eq", "(", ")", ",", "|", "é=", "\x00", "-", ":"} {
		refuses(t, "aa ("+no+" 1)", api.ErrRel, 4)
		refuses(t, "aa ("+no, api.ErrRel, 4)
		refuses(t, "aa( \n"+no+"= 1)", api.ErrRel, 5)
		refuses(t, "aa, bb (= 1), cc ("+no+")", api.ErrRel, 18)
	}
	for _, gap := range []string{"", " ", " \t\n"} {
		refuses(t, "aa ("+gap, api.ErrRel, 4+len(gap))
		refuses(t, "aa ("+gap+"1)", api.ErrRel, 4+len(gap))
		refuses(t, "aa ("+gap+")", api.ErrRel, 4+len(gap))
	}
}

// P22.2: a word that should be a name and isn't: of each byte that begins no other piece.
func TestWordsThatAreNoNames(t *testing.T) {
	for _, word := range []string{"a", "A", "AA", "aA", "-a", "+a", ".a", "a_", "a:b", "aa=1", "aa>=1", "<<", "=", "=aa", "é", "\xff\xfe", "a\x00", "1:2", "a/b", "aa;", "\"aa\"", "[aa]", "aa:any", "${aa}", "#"} {
		refuses(t, word, api.ErrName, 0)
		refuses(t, " \n"+word+"\t", api.ErrName, 2)
		refuses(t, word+",", api.ErrName, 0)
		refuses(t, word+" bb", api.ErrName, 0)
		refuses(t, word+"(=x)", api.ErrName, 0)
		readRefuses(t, word+"|", api.ErrName, 0)
		readRefuses(t, "aa|bb (<< 1) |\n"+word+",,", api.ErrName, 15)
		refuses(t, "aa, bb, "+word+" (", api.ErrName, 8)
		refuses(t, "aa, bb (= 1),"+word, api.ErrName, 13)
	}
}

// P22.2: a word that should be a version and isn't legal, with each operator; and where the word ends.
func TestWordsThatAreNoVersions(t *testing.T) {
	for op := api.Below; op <= api.Above; op++ {
		n := len(signOf(op))
		for _, word := range []string{"x", "a1", "1-", "-1", ":1", "1:", "a:1", "1_2", "1:2-3:4", "1é", "\xff", "1\x00", "1=", "1<2", "é", "1;", "1/2", "~1", "$"} {
			refuses(t, "aa ("+signOf(op)+" "+word+")", api.ErrVersion, 5+n)
			refuses(t, "aa ("+signOf(op)+"\n\t "+word+" )", api.ErrVersion, 7+n)
			refuses(t, "aa ("+signOf(op)+" "+word, api.ErrVersion, 5+n)
			refuses(t, "aa ("+signOf(op)+" "+word+" (,", api.ErrVersion, 5+n)
			refuses(t, "b1, aa("+signOf(op)+" "+word+",,", api.ErrVersion, 8+n)
			readRefuses(t, "b1| aa("+signOf(op)+" "+word+"|AA", api.ErrVersion, 8+n)
		}
	}
	// These bytes stand behind the run of an operator only beyond a gap.
	refuses(t, "aa (= =1)", api.ErrVersion, 6)
	refuses(t, "aa (>= >1)", api.ErrVersion, 7)
	refuses(t, "aa (>> >>)", api.ErrVersion, 7)
}

// P22.2: a version is kept as it is written.
func TestVersionsAreKept(t *testing.T) {
	for _, v := range []string{"01", "1.", "1.0", "0:1", "00:1-0", "1-00", "1-~", "1.00a", "000", "1-2-3", "1:2:3", "9999999999999999999999", "1A", "1+~."} {
		reads(t, "aa (= "+v+")", list(rel("aa", "=", v)))
		reads(t, "aa(<<"+v+")|bb(>>"+v+")", list(rel("aa", "<<", v), rel("bb", ">>", v)))
		writes(t, "aa (>= "+v+")", list(rel("aa", ">=", v)))
	}
}

// P22.2: lists and relations stand in the order of the text, and may be the same.
func TestOrderIsKept(t *testing.T) {
	reads(t, "bb, aa, bb", list(rel("bb")), list(rel("aa")), list(rel("bb")))
	reads(t, "bb | aa | bb", list(rel("bb"), rel("aa"), rel("bb")))
	reads(t, "bb (= 2), bb (= 1), bb, bb (= 01)", list(rel("bb", "=", "2")), list(rel("bb", "=", "1")), list(rel("bb")), list(rel("bb", "=", "01")))
	reads(t, "aa | aa, aa | aa | aa, aa", list(rel("aa"), rel("aa")), list(rel("aa"), rel("aa"), rel("aa")), list(rel("aa")))
}

// P22.2: in a plain list there are no bars, wherever they stand.
func TestBarsInAPlainList(t *testing.T) {
	one, other := rel("aa"), rel("bb", "=", "1")
	for s, at := range map[string]int{"aa|bb (= 1)": 2, "aa |bb (= 1)": 3, "aa\n| bb (= 1)": 3} {
		reads(t, s, list(one, other))
		listRefuses(t, s, api.ErrRel, at)
	}
	reads(t, "bb (= 1) | aa", list(other, one))
	listRefuses(t, "bb (= 1) | aa", api.ErrRel, 9)
	reads(t, "aa, aa | aa", list(one), list(one, one))
	listRefuses(t, "aa, aa | aa", api.ErrRel, 7)
	reads(t, "aa | aa, aa", list(one, one), list(one))
	listRefuses(t, "aa | aa, aa", api.ErrRel, 3)
	// What is wrong behind the bar comes too late, what is wrong ahead of it doesn't.
	readRefuses(t, "aa | A", api.ErrName, 5)
	listRefuses(t, "aa | A", api.ErrRel, 3)
	readRefuses(t, "aa |", api.ErrRel, 4)
	listRefuses(t, "aa |", api.ErrRel, 3)
	refuses(t, "A | aa", api.ErrName, 0)
	refuses(t, "|", api.ErrRel, 0)
	refuses(t, " | aa", api.ErrRel, 1)
	refuses(t, "aa, | aa", api.ErrRel, 4)
	refuses(t, "aa (|= 1)", api.ErrRel, 4)
}

// P22.2: long texts come to an end soon.
func TestLongTexts(t *testing.T) {
	const n = 1 << 18
	var many []api.Rel
	for range n {
		many = append(many, rel("aa", ">=", "1"))
	}
	reads(t, repeated(n-1, "aa(>=1),")+"aa(>=1)", lists(many)...)
	reads(t, repeated(n-1, "aa(>=1)|")+"aa(>=1)", many)
	writes(t, repeated(n-1, "aa (>= 1), ")+"aa (>= 1)", lists(many)...)
	writes(t, repeated(n-1, "aa (>= 1) | ")+"aa (>= 1)", many)
	refuses(t, repeated(n, "aa,"), api.ErrRel, 3*n)
	readRefuses(t, repeated(n, "aa|"), api.ErrRel, 3*n)
	refuses(t, repeated(n, "("), api.ErrRel, 0)
	refuses(t, "aa ("+repeated(n, ">"), api.ErrRel, 4)
	refuses(t, "aa ("+repeated(n, " "), api.ErrRel, 4+n)
	refuses(t, repeated(n, "A"), api.ErrName, 0)
	refuses(t, "aa (= "+repeated(n, "a")+")", api.ErrVersion, 6)
	refuses(t, repeated(n, "aa,\n")+"A", api.ErrName, 4*n)
	long := repeated(n, "a1")
	reads(t, long+"(="+repeated(n, "12")+")", list(rel(long, "=", repeated(n, "12"))))
}
