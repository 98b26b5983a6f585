package drat_test

import (
	"math/big"
	"regexp"
	"strings"
	"testing"

	"depot/api"
	"depot/drat"
)

var (
	inTens = regexp.MustCompile(`^(0|-?[1-9][0-9]*)$`)
	aWord  = regexp.MustCompile(`[^ \t]+`)
)

// within: the number that the word is, if it is one in tens from -MaxVar to MaxVar.
func within(word string) (int, bool) {
	if !inTens.MatchString(word) {
		return 0, false
	}
	n, _ := new(big.Int).SetString(word, 10)
	if n.CmpAbs(big.NewInt(api.MaxVar)) > 0 {
		return 0, false
	}
	return int(n.Int64()), true
}

// badRemark: does a remark hold another byte?
func badRemark(line string) bool {
	for k := range len(line) {
		if b := line[k]; b != 9 && (b < 32 || b > 126) {
			return true
		}
	}
	return false
}

// byWords: the steps whose 0 stands ahead of the first fault, and the fault's line, 0 if there is none; all by the document's words, and with no thought of time or room.
func byWords(s string) ([]api.Step, int) {
	lines := strings.Split(s, "\n")
	if lines[len(lines)-1] == "" {
		lines = lines[:len(lines)-1]
	}
	var out []api.Step
	var open []string // the words of the step that has no 0 yet
	for k, line := range lines {
		if line != "" && line[0] == 'c' {
			if badRemark(line) {
				return out, k + 1
			}
			continue
		}
		for _, word := range aWord.FindAllString(line, -1) {
			n, isNumber := within(word)
			switch {
			case isNumber && n == 0:
				out = append(out, stepOf(open))
				open = nil
			case isNumber, word == "d" && len(open) == 0:
				open = append(open, word)
			default:
				return out, k + 1
			}
		}
	}
	if len(open) > 0 {
		return out, len(lines) + 1
	}
	return out, 0
}

// stepOf: the step of the words ahead of a 0.
func stepOf(words []string) api.Step {
	var step api.Step
	for _, word := range words {
		if word == "d" {
			step.Drop = true
			continue
		}
		n, _ := within(word)
		step.Lits = append(step.Lits, n)
	}
	return step
}

// asWords: Read and Steps answer what the document's words say; whether there is a fault.
func asWords(t *testing.T, s string) bool {
	t.Helper()
	steps, line := byWords(s)
	if line == 0 {
		reads(t, s, steps...)
	} else {
		refuses(t, s, line, steps...)
	}
	if t.Failed() {
		t.FailNow()
	}
	return line > 0
}

// texts: all texts of up to so many of the pieces.
func texts(most int, pieces ...string) []string {
	out := []string{""}
	for from := 0; most > 0; most-- {
		to := len(out)
		for _, s := range out[from:to] {
			for _, p := range pieces {
				out = append(out, s+p)
			}
		}
		from = to
	}
	return out
}

// P9.1, P9.3: every short text is read as the document's words say.
func TestShortTexts(t *testing.T) {
	faults, all := 0, 0
	for _, s := range append(texts(6, "1", "-", "0", "d", " ", "\n", "c"), texts(5, "1 ", "-1048576", "0", " ", "d\t", "\n", "c", "\xff", "x\n")...) {
		if asWords(t, s) {
			faults++
		}
		all++
	}
	if faults == 0 || faults == all {
		t.Errorf("%d of %d have a fault", faults, all)
	}
}

// P9.1: every text of one byte, and of two.
func TestAllBytes(t *testing.T) {
	for a := range 256 {
		asWords(t, string([]byte{byte(a)}))
		for b := range 256 {
			asWords(t, string([]byte{byte(a), byte(b)}))
			asWords(t, "1 0\n"+string([]byte{byte(a), byte(b)})+"\n0")
		}
	}
}

// P9.1: each number near the edges, with each sign and with noughts ahead, is a word just where it is a literal in tens.
func TestNumbers(t *testing.T) {
	for _, sign := range []string{"", "-", "+", "--"} {
		for _, ahead := range []string{"", "0", "00"} {
			for _, n := range []string{"0", "1", "2", "9", "10", "99", "100", "101", "1000", "99999", "1048575", "1048576", "1048577", "1048578", "1048586", "1049576", "2048576", "9048576", "10485760", "4295967296", "18446744073709551615"} {
				asWords(t, sign+ahead+n+" 0")
				asWords(t, "d 5 "+sign+ahead+n+" 0\n")
			}
		}
	}
}

// Any argument: texts with bytes changed, taken out or put in, and bytes that are no text at all.
func TestSpoiltTexts(t *testing.T) {
	draw := drawn(6)
	for range 20000 {
		s, _ := drat.Write(draw.steps())
		asWords(t, draw.spoilt(draw.reblanked(draw.recut(s))))
		b := make([]byte, draw.Intn(12))
		for k := range b {
			b[k] = byte(draw.Intn(256))
		}
		asWords(t, s+string(b))
	}
}
