package relation_test

import (
	"slices"
	"strings"
	"testing"

	"depot/api"
)

// P22.2: the chapter's examples of faults.
func TestFaultExamples(t *testing.T) {
	for _, x := range []struct {
		s  string
		e  api.Errno
		at int
	}{
		{"a", api.ErrName, 0}, {"aa,", api.ErrRel, 3}, {"aa,,bb", api.ErrRel, 3}, {", aa", api.ErrRel, 0}, {"aa bb", api.ErrRel, 3},
		{"aa (", api.ErrRel, 4}, {"aa (1)", api.ErrRel, 4}, {"aa (> 1)", api.ErrRel, 4}, {"aa (==1)", api.ErrRel, 4}, {"aa (= )", api.ErrRel, 6}, {"aa (= x)", api.ErrVersion, 6},
		{"aa (= 1", api.ErrRel, 7}, {"aa (= 1 2)", api.ErrRel, 8}, {"aa (= 1) (= 2)", api.ErrRel, 9}, {"aa(=1)bb", api.ErrRel, 6}, {"aa (= 1|2)", api.ErrRel, 7}, {"AA", api.ErrName, 0},
		{"aa (= =1)", api.ErrVersion, 6},
	} {
		refuses(t, x.s, x.e, x.at)
	}
	readRefuses(t, "aa |", api.ErrRel, 4)
}

// P22.2: each piece missing, at the end of the text and ahead of another piece, with gaps and without.
func TestMissingPieces(t *testing.T) {
	for _, x := range []struct{ ahead, instead []string }{
		{[]string{}, []string{"(", ")", ",", "|"}},
		{[]string{"aa"}, []string{")"}},
		{[]string{"aa", "("}, []string{"", "1", "aa", ")", "(", ",", "|"}},
		{[]string{"aa", "(", ">="}, []string{"", ")", "(", ",", "|"}},
		{[]string{"aa", "(", "=", "1"}, []string{"", "(", ",", "|"}},
		{[]string{"aa", "(", "=", "1", ")"}, []string{"(", ")", "bb", "=", "1"}},
		{[]string{"aa", ","}, []string{"", "(", ")", ",", "|"}},
		{[]string{"aa", "(", "=", "1", ")", ","}, []string{"", "(", ")", ",", "|"}},
		{[]string{"aa", ",", "bb", "("}, []string{"", "1", ")"}},
		{[]string{"aa", "(", "=", "1", ")", ",", "bb", "(", "<<", "2"}, []string{"", "(", ","}},
	} {
		for _, gap := range []string{"", " ", "\n\t "} {
			ahead := spread(x.ahead, func() string { return gap })
			for _, instead := range x.instead {
				for _, rest := range []string{instead, instead + gap, instead + gap + ", aa", instead + gap + "(= x)"} {
					gone := len(rest) - len(strings.TrimLeft(rest, " \t\n"))
					refuses(t, ahead+rest, api.ErrRel, len(ahead)+gone)
				}
			}
		}
	}
	for _, s := range []string{"aa|", "aa | bb|", "aa (= 1)|", "zz,aa\n|\t"} {
		for _, instead := range []string{"", "(", ")", ",", "|"} {
			readRefuses(t, s+instead, api.ErrRel, len(s))
			readRefuses(t, s+" "+instead, api.ErrRel, len(s)+1)
		}
	}
}

// P22.2: bars and commas that stand where none may.
func TestBarsAndCommas(t *testing.T) {
	for _, gap := range []string{"", " ", "\t\n"} {
		n := len(gap)
		for _, mark := range []string{",", "|", ",,", "||", ",|", "|,"} {
			refuses(t, gap+mark, api.ErrRel, n)
			refuses(t, gap+mark+gap+"aa", api.ErrRel, n)
			refuses(t, "aa"+gap+","+gap+mark+"aa", api.ErrRel, 3+2*n)
			refuses(t, "aa,"+gap+mark, api.ErrRel, 3+n)
			readRefuses(t, "aa|"+gap+mark, api.ErrRel, 3+n)
			readRefuses(t, "aa|"+gap+mark+gap+"bb", api.ErrRel, 3+n)
			refuses(t, "aa ("+gap+mark+"= 1)", api.ErrRel, 4+n)
			refuses(t, "aa (="+gap+mark+"1)", api.ErrRel, 5+n)
			refuses(t, "aa (=1"+gap+mark+")", api.ErrRel, 6+n)
			refuses(t, "aa (=1),"+gap+mark, api.ErrRel, 8+n)
		}
		refuses(t, "aa"+gap+","+gap, api.ErrRel, 3+2*n)
		readRefuses(t, "aa"+gap+"|"+gap, api.ErrRel, 3+2*n)
		readRefuses(t, "aa, bb | cc (= 1)"+gap+"|"+gap, api.ErrRel, 18+2*n)
		readRefuses(t, "aa | bb"+gap+","+gap, api.ErrRel, 8+2*n)
	}
}

// P22.2: of several faults the first one is told, whatever they are, and no lists that stand whole ahead of it.
func TestFirstFault(t *testing.T) {
	faults := []struct {
		s  string
		e  api.Errno
		at int
	}{
		{"A", api.ErrName, 0}, {"a", api.ErrName, 0}, {"aa (= x)", api.ErrVersion, 6}, {"aa (> 1)", api.ErrRel, 4}, {"aa (= 1", api.ErrRel, 7}, {"aa bb", api.ErrRel, 3}, {"aa (= )", api.ErrRel, 6}, {"aa)", api.ErrRel, 2}, {"(", api.ErrRel, 0},
	}
	ahead := "zz, zz (>= 1), "
	for _, one := range faults {
		for _, other := range faults {
			refuses(t, ahead+one.s+","+other.s, one.e, len(ahead)+one.at)
			refuses(t, ahead+one.s+"|"+other.s+", zz", one.e, len(ahead)+one.at)
			readRefuses(t, "zz|zz,zz|"+one.s+"|"+other.s, one.e, 9+one.at)
		}
	}
}

// P22.2: each of the 256 bytes at each place of a text, instead of what stands there and besides.
func TestBytesAsWords(t *testing.T) {
	const s = "aa|b1 ( <=1 ) ,c+"
	seen := map[api.Errno]int{}
	for n := range 256 {
		b := string([]byte{byte(n)})
		for k := range len(s) + 1 {
			seen[readsAsWords(t, s[:k]+b+s[k:])]++
			seen[readsAsWords(t, s[:k]+b+s[min(k+1, len(s)):])]++
			seen[readsAsWords(t, s[:k]+b)]++
		}
	}
	wantEach(t, seen)
}

// wantEach: each answer has come often.
func wantEach(t *testing.T, seen map[api.Errno]int) {
	t.Helper()
	for _, e := range []api.Errno{api.OK, api.ErrRel, api.ErrName, api.ErrVersion} {
		if seen[e] < 100 {
			t.Errorf("the error %d only %d times", e, seen[e])
		}
	}
}

// P22.2: of all short texts of these pieces the answer is that of the document's words.
func TestShortAsWords(t *testing.T) {
	seen := map[api.Errno]int{}
	for _, all := range [][]string{
		texts(5, "aa", "A", "(", ")", "=", "1", ",", "|", " "),
		texts(6, "aa", "(", ">>", "x1", "1", ")", "|"),
		texts(7, "aa", "(=", "1)", "\n", ",", "|"),
		texts(8, "a", "(", "=", "1", ")"),
	} {
		for _, s := range all {
			seen[readsAsWords(t, s)]++
		}
	}
	wantEach(t, seen)
}

// P22.2: of all texts from which a piece is taken out, or into which one is put, or in which two change places.
func TestPiecesAsWords(t *testing.T) {
	seen := map[api.Errno]int{}
	for _, bars := range []bool{false, true} {
		pieces, _ := somePieces(bars)
		for _, gap := range []string{"", " ", "\n\t"} {
			text := func(l []string) string { return spread(l, func() string { return gap }) }
			for k := range len(pieces) + 1 {
				for n := 1; k+n <= len(pieces); n++ {
					seen[readsAsWords(t, text(slices.Delete(slices.Clone(pieces), k, k+n)))]++
				}
				for _, put := range []string{",", "|", "(", ")", "=", "<<", "<", "aa", "a", "1", "1-", "é"} {
					seen[readsAsWords(t, text(slices.Insert(slices.Clone(pieces), k, put)))]++
				}
				for i := range min(k, len(pieces)-1) {
					swapped := slices.Clone(pieces)
					swapped[i], swapped[i+1] = swapped[i+1], swapped[i]
					seen[readsAsWords(t, text(swapped[:k]))]++
				}
			}
		}
	}
	wantEach(t, seen)
}

// P22.2: of many drawn texts, whole ones and spoilt ones.
func TestDrawnAsWords(t *testing.T) {
	draw := drawn(1)
	seen := map[api.Errno]int{}
	for range 40000 {
		s := spread(piecesOf(draw.lists(draw.Intn(2) == 0)), draw.gaps)
		if readsAsWords(t, s) != api.OK {
			t.Fatalf("%q was to have no fault", s)
		}
		seen[readsAsWords(t, draw.spoilt(s))]++
	}
	wantEach(t, seen)
}
