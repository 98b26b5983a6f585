package relation

import (
	"strings"

	"depot/api"
)

const (
	shortestName        = 2
	betweenLists        = ", "
	betweenAlternatives = " | "
)

// inName: may the byte stand in a package's name, as its first one or later?
func inName(b byte, first bool) bool {
	switch {
	case 'a' <= b && b <= 'z' || '0' <= b && b <= '9':
		return true
	case b == '+' || b == '-' || b == '.':
		return !first
	}
	return false
}

// allFormed: is each of them a relation?
func allFormed(l []api.Rel) bool {
	for _, r := range l {
		if !Formed(r) {
			return false
		}
	}
	return true
}

// write writes relations that are well shaped, and what stands between each two.
func write(out *strings.Builder, l []api.Rel, between string) {
	for k, r := range l {
		if k > 0 {
			out.WriteString(between)
		}
		out.WriteString(r.Name)
		if o, ok := ofOp(r.Op); ok {
			out.WriteString(" (" + o.text + " " + r.Version + ")")
		}
	}
}
