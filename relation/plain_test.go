package relation_test

import (
	"regexp"
	"strings"

	"depot/api"
	"depot/version"
)

// What follows here is a second reading of relations by the document's words, and with no thought of time or room.

const (
	gapsIn = `[ \t\n]*`
	asked  = `\(` + gapsIn + `(?:<<|<=|=|>=|>>)` + gapsIn + `([0-9a-zA-Z.+~:-]+)` + gapsIn + `\)`
	aRel   = gapsIn + `[a-z0-9][a-z0-9+.-]+` + gapsIn + `(?:` + asked + gapsIn + `)?`
)

var (
	aName = regexp.MustCompile(`^[a-z0-9][a-z0-9+.-]+$`)
	// aText: lists of alternatives, whose versions have the right bytes at least.
	aText = regexp.MustCompile(`^` + aRel + `(?:[,|]` + aRel + `)*$`)
	anAsk = regexp.MustCompile(asked)
)

// signOf: how the Op is written; no Op but those from 1 to 5 has a sign.
func signOf(op int) string {
	return map[int]string{api.Below: "<<", api.AtMost: "<=", api.Same: "=", api.AtLeast: ">=", api.Above: ">>"}[op]
}

// plainFormed: is it a relation?
func plainFormed(r api.Rel) bool {
	if !aName.MatchString(r.Name) {
		return false
	}
	if r.Op == 0 {
		return r.Version == ""
	}
	return r.Op >= 1 && r.Op <= 5 && version.Legal(r.Version)
}

// plainRead: what is read of a text, with bars or without them, by a machine of states that are called by what is wanted next.
func plainRead(s string, bars bool) (out [][]api.Rel, e api.Errno, at int) {
	k := 0
	skip := func() {
		for k < len(s) && strings.IndexByte(" \t\n", s[k]) >= 0 {
			k++
		}
	}
	// upTo: what stands from k on up to the first byte that isn't such a one.
	upTo := func(such func(b byte) bool) string {
		to := k
		for to < len(s) && such(s[to]) {
			to++
		}
		return s[k:to]
	}
	inWord := func(b byte) bool { return strings.IndexByte(" \t\n,|()", b) < 0 }
	var now api.Rel
	state, last := "name", ","
	skip()
	if k == len(s) {
		return nil, api.OK, 0
	}
	for {
		skip()
		rest := s[k:]
		piece := upTo(inWord)
		switch state {
		case "name":
			if piece == "" {
				return nil, api.ErrRel, k
			}
			if !aName.MatchString(piece) {
				return nil, api.ErrName, k
			}
			now = api.Rel{Name: piece}
			state = "what follows a name"
		case "operator":
			piece = upTo(func(b byte) bool { return strings.IndexByte("<=>", b) >= 0 })
			for op := 1; op <= 5; op++ {
				if signOf(op) == piece {
					now.Op = op
				}
			}
			if now.Op == 0 {
				return nil, api.ErrRel, k
			}
			state = "version"
		case "version":
			if piece == "" {
				return nil, api.ErrRel, k
			}
			if !version.Legal(piece) {
				return nil, api.ErrVersion, k
			}
			now.Version = piece
			state = "bracket"
		case "bracket":
			if piece = ")"; !strings.HasPrefix(rest, piece) {
				return nil, api.ErrRel, k
			}
			state = "what follows a bracket"
		default:
			if strings.HasPrefix(rest, "(") && state == "what follows a name" {
				piece = "("
				state = "operator"
				break
			}
			if last == "," {
				out = append(out, nil)
			}
			out[len(out)-1] = append(out[len(out)-1], now)
			if rest == "" {
				return out, api.OK, 0
			}
			last = rest[:1]
			if last != "," && (last != "|" || !bars) {
				return nil, api.ErrRel, k
			}
			piece = last
			state = "name"
		}
		k += len(piece)
	}
}

// plainTakes: is there no fault in a text? As one pattern says.
func plainTakes(s string) bool {
	if strings.Trim(s, " \t\n") == "" {
		return true
	}
	if !aText.MatchString(s) {
		return false
	}
	for _, found := range anAsk.FindAllStringSubmatch(s, -1) {
		if !version.Legal(found[1]) {
			return false
		}
	}
	return true
}

// plainOne: the text of a relation.
func plainOne(r api.Rel) string {
	if r.Op == 0 {
		return r.Name
	}
	return r.Name + " (" + signOf(r.Op) + " " + r.Version + ")"
}

// plainWrite: the text of lists; false, if they have none.
func plainWrite(l [][]api.Rel) (string, bool) {
	var lists []string
	for _, list := range l {
		var ones []string
		for _, r := range list {
			if !plainFormed(r) {
				return "", false
			}
			ones = append(ones, plainOne(r))
		}
		if len(ones) == 0 {
			return "", false
		}
		lists = append(lists, strings.Join(ones, " | "))
	}
	return strings.Join(lists, ", "), true
}

// plainHolds: does the version meet the relation's?
func plainHolds(r api.Rel, v string) (bool, api.Errno) {
	if !plainFormed(r) {
		return false, api.ErrShape
	}
	if !version.Legal(v) {
		return false, api.ErrVersion
	}
	if r.Op == api.Any {
		return true, api.OK
	}
	c, _ := version.Cmp(v, r.Version)
	switch r.Op {
	case api.Below:
		return c < 0, api.OK
	case api.AtMost:
		return c <= 0, api.OK
	case api.Same:
		return c == 0, api.OK
	case api.AtLeast:
		return c >= 0, api.OK
	}
	return c > 0, api.OK
}
