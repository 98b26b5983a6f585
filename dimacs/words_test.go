package dimacs_test

import (
	"math/big"
	"regexp"
	"slices"
	"strings"
	"testing"

	"depot/api"
	"depot/dimacs"
)

var (
	inTens = regexp.MustCompile(`^(0|-?[1-9][0-9]*)$`)
	aWord  = regexp.MustCompile(`[^ \t]+`)
)

// spot is a word and the number of its line.
type spot struct {
	word string
	line int
}

// row is a line that isn't idle.
type row struct {
	words []string
	line  int
}

// rows: the lines that aren't idle, and the number of the line behind the last one; all by the document's words, and with no thought of time or room.
func rows(s string) ([]row, int) {
	lines := strings.Split(s, "\n")
	if lines[len(lines)-1] == "" {
		lines = lines[:len(lines)-1]
	}
	var out []row
	for k, line := range lines {
		if words := aWord.FindAllString(line, -1); words != nil && line[0] != 'c' {
			out = append(out, row{words, k + 1})
		}
	}
	return out, len(lines) + 1
}

// spots: the words of the lines from the number skip on, one behind the other.
func spots(of []row, skip int) []spot {
	var out []spot
	for _, r := range of {
		for _, w := range r.words[skip:] {
			out = append(out, spot{w, r.line})
		}
	}
	return out
}

// within: is it a number in tens from the one to the other?
func within(word string, least, most int64) bool {
	n, ok := new(big.Int).SetString(word, 10)
	return ok && inTens.MatchString(word) && n.Cmp(big.NewInt(least)) >= 0 && n.Cmp(big.NewInt(most)) <= 0
}

// small: the number that the word is.
func small(word string) int {
	n, _ := new(big.Int).SetString(word, 10)
	return int(n.Int64())
}

// readByWords: what Read is to answer.
func readByWords(s string) (api.Formula, api.Errno, int) {
	all, end := rows(s)
	if len(all) == 0 {
		return form(0), api.ErrHead, end
	}
	h := all[0].words
	if len(h) != 4 || h[0] != "p" || h[1] != "cnf" || !within(h[2], 0, api.MaxVar) || !within(h[3], 0, 2147483647) {
		return form(0), api.ErrHead, all[0].line
	}
	f := form(small(h[2]))
	var literals []int
	for _, at := range spots(all[1:], 0) {
		switch {
		case !inTens.MatchString(at.word):
			return form(0), api.ErrToken, at.line
		case !within(at.word, -int64(f.Vars), int64(f.Vars)):
			return form(0), api.ErrLit, at.line
		case at.word == "0":
			f.Clauses = append(f.Clauses, literals)
			literals = nil
		default:
			literals = append(literals, small(at.word))
		}
	}
	switch {
	case literals != nil:
		return form(0), api.ErrEnd, end
	case len(f.Clauses) != small(h[3]):
		return form(0), api.ErrCount, end
	}
	return f, api.OK, 0
}

// readAnswerByWords: what ReadAnswer is to answer.
func readAnswerByWords(s string) (bool, []bool, api.Errno, int) {
	all, end := rows(s)
	if len(all) == 0 {
		return false, nil, api.ErrAnswer, end
	}
	first, behind := strings.Join(all[0].words, " "), all[1:]
	switch {
	case first == "s UNSATISFIABLE" && len(behind) == 0:
		return false, nil, api.OK, 0
	case first == "s UNSATISFIABLE":
		return false, nil, api.ErrAnswer, behind[0].line
	case first != "s SATISFIABLE":
		return false, nil, api.ErrAnswer, all[0].line
	}
	// A line without v is a fault behind those of the lines ahead of it.
	stop := slices.IndexFunc(behind, func(r row) bool { return r.words[0] != "v" })
	last, lastLine := api.ErrEnd, end
	if stop >= 0 {
		last, lastLine = api.ErrAnswer, behind[stop].line
		behind = behind[:stop]
	}
	var m []bool
	numbers := spots(behind, 1)
	for k, at := range numbers {
		due := int64(k + 1)
		switch {
		case !inTens.MatchString(at.word):
			return false, nil, api.ErrToken, at.line
		case at.word == "0" && k+1 < len(numbers):
			return false, nil, api.ErrAnswer, numbers[k+1].line
		case at.word == "0" && stop >= 0:
			return false, nil, last, lastLine
		case at.word == "0":
			return true, m, api.OK, 0
		case due > api.MaxVar || !within(at.word, due, due) && !within(at.word, -due, -due):
			return false, nil, api.ErrLit, at.line
		}
		m = append(m, at.word[0] != '-')
	}
	return false, nil, last, lastLine
}

// sameRead: Read answers what the document's words say.
func sameRead(t *testing.T, s string) api.Errno {
	t.Helper()
	f, e, line := dimacs.Read(s)
	wantF, wantE, wantLine := readByWords(s)
	if !equal(f, wantF) || e != wantE || line != wantLine {
		t.Fatalf("Read(%q) = %v, %d, %d, not %v, %d, %d", s, f, e, line, wantF, wantE, wantLine)
	}
	return e
}

// sameAnswer: ReadAnswer answers what the document's words say.
func sameAnswer(t *testing.T, s string) api.Errno {
	t.Helper()
	sat, m, e, line := dimacs.ReadAnswer(s)
	wantSat, wantM, wantE, wantLine := readAnswerByWords(s)
	if sat != wantSat || !slices.Equal(m, wantM) || e != wantE || line != wantLine {
		t.Fatalf("ReadAnswer(%q) = %v, %v, %d, %d, not %v, %v, %d, %d", s, sat, m, e, line, wantSat, wantM, wantE, wantLine)
	}
	return e
}

// texts: all texts of up to so many of the pieces, behind the beginning.
func texts(begin string, most int, pieces ...string) []string {
	out := []string{begin}
	for from := 0; most > 0; most-- {
		to := len(out)
		for _, s := range out[from:to] {
			for _, p := range pieces {
				out = append(out, s+p)
			}
		}
		from = to
	}
	return out
}

// count: how often each error is answered.
func count(all []string, answer func(s string) api.Errno) map[api.Errno]int {
	out := map[api.Errno]int{}
	for _, s := range all {
		out[answer(s)]++
	}
	return out
}

// P3.1: every short text is read as the document's words say, and every error is among the answers.
func TestReadAsTheWordsSay(t *testing.T) {
	read := func(s string) api.Errno { return sameRead(t, s) }
	count(texts("", 5, "p cnf", " ", "\n", "2", "1", "c", "0", "-"), read)
	count(texts("", 4, "p", "p cnf 1", " cnf", " 0", " 1048576", " 1048577", " 2147483647", " 2147483648", "\n", " 01", "\t", "\r"), read)
	seen := count(texts("p cnf 2 1\n", 5, "1", "-", "0", "3", " ", "\n", "c", "2 "), read)
	for _, e := range []api.Errno{api.OK, api.ErrToken, api.ErrLit, api.ErrEnd, api.ErrCount} {
		if seen[e] == 0 {
			t.Errorf("error %d is never answered", e)
		}
	}
}

// P3.4: every short answer is read as the document's words say, and every error is among the answers.
func TestReadAnswerAsTheWordsSay(t *testing.T) {
	read := func(s string) api.Errno { return sameAnswer(t, s) }
	count(texts("", 5, "s", " ", "SATISFIABLE", "UN", "\n", "c", "v 0", "\t"), read)
	count(texts("s UNSATISFIABLE", 4, " ", "\n", "c", "v", "0", "\r"), read)
	seen := count(texts("s SATISFIABLE\n", 5, "v ", "1 ", "-", "2 ", "0 ", "\n", "c", "v", "00"), read)
	for _, e := range []api.Errno{api.OK, api.ErrToken, api.ErrLit, api.ErrEnd, api.ErrAnswer} {
		if seen[e] == 0 {
			t.Errorf("error %d is never answered", e)
		}
	}
}

// Any argument: texts with a byte changed, taken out or put in are read as the document's words say.
func TestReadOfSpoiltTexts(t *testing.T) {
	draw := drawn(4)
	for range 5000 {
		s, _ := dimacs.Write(draw.formula())
		sameRead(t, draw.spoilt(draw.loosened(s, "")))
		m := draw.truths(draw.Intn(40))
		sameAnswer(t, draw.spoilt(draw.loosened(dimacs.WriteAnswer(draw.Intn(5) > 0, m), "v ")))
		sameRead(t, dimacs.WriteAnswer(true, m))
		sameAnswer(t, s)
	}
}

// spoilt: the text with some bytes of it changed, taken out or put in.
func (d *drawer) spoilt(s string) string {
	for range d.Intn(4) {
		if s == "" {
			return s
		}
		k := d.Intn(len(s))
		put := d.pick("0", "1", "-", " ", "\n", "c", "v", "s", "\t", "\r", "\x00", "\xff", "+", "9", "p", " 0 ", "\nv ", "")
		s = s[:k] + put + s[k+d.Intn(2):]
	}
	return s
}
