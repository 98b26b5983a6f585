package version

import "strings"

// parts are a version's parts as they are written, "" where there is none.
type parts struct {
	epoch, upstream, revision string
}

// read: the parts of a version; false, if the text is none.
func read(s string) (parts, bool) {
	p := parts{upstream: s}
	if epoch, behind, found := strings.Cut(s, ":"); found {
		if !all(epoch, digit) {
			return parts{}, false
		}
		p.epoch, p.upstream = epoch, behind
	}
	if at := strings.LastIndexByte(p.upstream, '-'); at >= 0 {
		p.upstream, p.revision = p.upstream[:at], p.upstream[at+1:]
		if !all(p.revision, plain) {
			return parts{}, false
		}
	}
	if span(p.upstream, digit) == 0 || !all(p.upstream, inUpstream) {
		return parts{}, false
	}
	return p, true
}

// all: has the text runes, and such ones alone?
func all(s string, such func(r rune) bool) bool {
	return s != "" && span(s, such) == len(s)
}

// span: how many bytes such runes take at the text's head.
func span(s string, such func(r rune) bool) int {
	for at, r := range s {
		if !such(r) {
			return at
		}
	}
	return len(s)
}

// inUpstream: may it stand in an upstream part? Of a text without an epoch no colon comes as far, so none need be told apart here.
func inUpstream(r rune) bool {
	return plain(r) || r == '-' || r == ':'
}

// plain: may it stand in a revision? Bytes that are no text come as a rune that may stand nowhere.
func plain(r rune) bool {
	return letter(r) || digit(r) || r == '+' || r == '.' || r == '~'
}

func letter(r rune) bool { return 'a' <= r && r <= 'z' || 'A' <= r && r <= 'Z' }

func digit(r rune) bool { return '0' <= r && r <= '9' }

func noDigit(r rune) bool { return !digit(r) }
