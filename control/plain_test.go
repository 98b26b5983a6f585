package control_test

import (
	"strings"
	"unicode/utf8"

	"depot/api"
)

// What follows here is a second reading of stanzas by the document's words, and with no thought of time or room.

// plainLines: the text cut at its line feeds.
func plainLines(s string) []string {
	lines := strings.Split(s, "\n")
	if lines[len(lines)-1] == "" {
		lines = lines[:len(lines)-1]
	}
	return lines
}

// plainTrim: the text without the blanks at its ends.
func plainTrim(s string) string {
	for strings.HasPrefix(s, " ") || strings.HasPrefix(s, "\t") {
		s = s[1:]
	}
	for strings.HasSuffix(s, " ") || strings.HasSuffix(s, "\t") {
		s = s[:len(s)-1]
	}
	return s
}

// plainFair: may it be a line?
func plainFair(line string) bool {
	for k := range len(line) {
		if line[k] < 32 && line[k] != '\t' || line[k] == 127 {
			return false
		}
	}
	return utf8.ValidString(line)
}

// plainName: is it a field's name?
func plainName(s string) bool {
	for k := range len(s) {
		if s[k] < 33 || s[k] > 126 || s[k] == ':' {
			return false
		}
	}
	return len(s) > 0 && s[0] != '#' && s[0] != '-'
}

// plainSmall: the text with A to Z written as a to z.
func plainSmall(s string) string {
	for k := range 26 {
		s = strings.ReplaceAll(s, string(rune('A'+k)), string(rune('a'+k)))
	}
	return s
}

// plainHas: has the stanza a field with a name that is alike, and which?
func plainHas(s api.Stanza, name string) (int, bool) {
	for k, f := range s.Fields {
		if plainSmall(f.Name) == plainSmall(name) {
			return k, true
		}
	}
	return 0, false
}

// plainRead: the stanzas of a text; the line of a fault.
func plainRead(s string) ([]api.Stanza, api.Errno, int) {
	var out []api.Stanza
	inside := false
	for k, line := range plainLines(s) {
		if !plainFair(line) {
			return nil, api.ErrText, k + 1
		}
		if plainTrim(line) == "" {
			inside = false
			continue
		}
		if line[0] == '#' {
			continue
		}
		if line[0] == ' ' || line[0] == '\t' {
			if !inside {
				return nil, api.ErrField, k + 1
			}
			fields := out[len(out)-1].Fields
			fields[len(fields)-1].Value += "\n" + plainTrim(line)
			continue
		}
		colon := strings.IndexByte(line, ':')
		if colon < 0 || !plainName(line[:colon]) {
			return nil, api.ErrField, k + 1
		}
		if !inside {
			out = append(out, api.Stanza{Line: k + 1})
			inside = true
		}
		at := &out[len(out)-1]
		if _, has := plainHas(*at, line[:colon]); has {
			return nil, api.ErrTwice, k + 1
		}
		at.Fields = append(at.Fields, api.Field{Name: line[:colon], Value: plainTrim(line[colon+1:])})
	}
	return out, api.OK, 0
}

// plainValue: may it be a value?
func plainValue(s string) bool {
	if !utf8.ValidString(s) {
		return false
	}
	for k := range len(s) {
		if s[k] < 32 && s[k] != '\t' && s[k] != '\n' || s[k] == 127 {
			return false
		}
	}
	for k, piece := range strings.Split(s, "\n") {
		if piece != plainTrim(piece) || piece == "" && k > 0 {
			return false
		}
	}
	return true
}

// plainFormed: can the stanzas be written?
func plainFormed(l []api.Stanza) bool {
	for _, s := range l {
		if len(s.Fields) == 0 {
			return false
		}
		for k, f := range s.Fields {
			if !plainName(f.Name) || !plainValue(f.Value) {
				return false
			}
			if _, twice := plainHas(api.Stanza{Fields: s.Fields[:k]}, f.Name); twice {
				return false
			}
		}
	}
	return true
}

// plainWrite: the text of stanzas that are formed.
func plainWrite(l []api.Stanza) string {
	var texts []string
	for _, s := range l {
		text := ""
		for _, f := range s.Fields {
			pieces := strings.Split(f.Value, "\n")
			if pieces[0] == "" {
				text += f.Name + ":\n"
			} else {
				text += f.Name + ": " + pieces[0] + "\n"
			}
			for _, piece := range pieces[1:] {
				text += " " + piece + "\n"
			}
		}
		texts = append(texts, text)
	}
	return strings.Join(texts, "\n")
}
