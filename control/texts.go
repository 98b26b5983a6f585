package control

import (
	"strings"
	"unicode/utf8"
)

const (
	blanks   = " \t"
	erase    = 127
	spelling = string(utf8.RuneError) // the rune that bytes come as which are no text, where it is spelt out
)

// trimmed: the text without the blanks at its beginning and at its end.
func trimmed(s string) string {
	return strings.Trim(s, blanks)
}

// isFair: is the text UTF-8, without a byte that no line may hold?
func isFair(s string) bool {
	for at, r := range s {
		switch {
		case r < ' ' && r != '\t' || r == erase:
			return false
		case r == utf8.RuneError && !strings.HasPrefix(s[at:], spelling):
			return false
		}
	}
	return true
}

// isName: is it a field's name?
func isName(s string) bool {
	for at, r := range s {
		if r <= ' ' || r > '~' || r == ':' || at == 0 && (r == '#' || r == '-') {
			return false
		}
	}
	return s != ""
}

// isValue: is it a value that lines can hold, just as it is?
func isValue(s string) bool {
	for k, piece := range strings.Split(s, "\n") {
		if !isFair(piece) || trimmed(piece) != piece || k > 0 && piece == "" {
			return false
		}
	}
	return true
}

// alike: are the names the same, but for A to Z and a to z?
func alike(a, b string) bool {
	if len(a) != len(b) {
		return false
	}
	for k := range len(a) {
		if small(a[k]) != small(b[k]) {
			return false
		}
	}
	return true
}

// folded: the one text of all names that are alike.
func folded(name string) string {
	out := []byte(name)
	for k, b := range out {
		out[k] = small(b)
	}
	return string(out)
}

// small: the byte, and of a capital letter the small one.
func small(b byte) byte {
	if 'A' <= b && b <= 'Z' {
		return b - 'A' + 'a'
	}
	return b
}
