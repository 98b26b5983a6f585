package relation

import (
	"slices"
	"strings"

	"depot/api"
	"depot/version"
)

// What a piece may be, as its first byte tells.
type kind int

const (
	end   kind = iota // there is none left
	gap               // none yet: it stands ahead of the next one
	word              // a word
	signs             // an operator, or a word, as the place wants it
	opening
	closing
	bar
	comma
)

// kindOf: what a piece may be that begins with the byte.
func kindOf(b byte) kind {
	switch b {
	case ' ', '\t', '\n':
		return gap
	case '<', '=', '>':
		return signs
	case '(':
		return opening
	case ')':
		return closing
	case '|':
		return bar
	case ',':
		return comma
	}
	return word
}

// reader goes through a text from piece to piece, and stays ahead of one that can't stand there: that is the fault's place.
type reader struct {
	text string
	at   int
}

// look goes over gaps to the next piece, and answers what it may be.
func (r *reader) look() kind {
	r.at += len(r.run(gap))
	if r.at == len(r.text) {
		return end
	}
	return kindOf(r.text[r.at])
}

// run: the longest run of bytes of these kinds that stands here.
func (r *reader) run(of ...kind) string {
	to := r.at
	for to < len(r.text) && slices.Contains(of, kindOf(r.text[to])) {
		to++
	}
	return r.text[r.at:to]
}

// pass goes over the next piece, if it is of that kind, of which each has one byte.
func (r *reader) pass(k kind) bool {
	if r.look() != k {
		return false
	}
	r.at++
	return true
}

// whole reads one thing or several, a comma between each two, up to the end of the text, or none, if that is here; or the place of a fault.
func whole[T any](r *reader, one func() (T, api.Errno)) ([]T, api.Errno, int) {
	if r.look() == end {
		return nil, api.OK, 0
	}
	l, e := several(r, comma, one)
	if e == api.OK && r.look() != end {
		e = api.ErrRel
	}
	if e != api.OK {
		return nil, e, r.at
	}
	return l, api.OK, 0
}

// several reads one thing, and another one as long as such a piece stands behind it.
func several[T any](r *reader, between kind, one func() (T, api.Errno)) ([]T, api.Errno) {
	var out []T
	for {
		x, e := one()
		if e != api.OK {
			return nil, e
		}
		out = append(out, x)
		if !r.pass(between) {
			return out, api.OK
		}
	}
}

// alternatives reads a list of them.
func (r *reader) alternatives() ([]api.Rel, api.Errno) {
	return several(r, bar, r.relation)
}

// relation reads one.
func (r *reader) relation() (api.Rel, api.Errno) {
	name, e := r.word(Name, api.ErrName)
	if e != api.OK || !r.pass(opening) {
		return api.Rel{Name: name}, e
	}
	op, e := r.operator()
	if e != api.OK {
		return api.Rel{}, e
	}
	v, e := r.word(version.Legal, api.ErrVersion)
	if e != api.OK {
		return api.Rel{}, e
	}
	if !r.pass(closing) {
		return api.Rel{}, api.ErrRel
	}
	return api.Rel{Name: name, Op: op, Version: v}, api.OK
}

// word reads a word, which must be such a one; wrong is the error of one that isn't.
func (r *reader) word(such func(s string) bool, wrong api.Errno) (string, api.Errno) {
	r.look()
	s := r.run(word, signs)
	if s == "" {
		return "", api.ErrRel
	}
	if !such(s) {
		return "", wrong
	}
	r.at += len(s)
	// A copy doesn't hold on to what came in.
	return strings.Clone(s), api.OK
}

// operator reads an operator, and answers its Op.
func (r *reader) operator() (int, api.Errno) {
	r.look()
	s := r.run(signs)
	o, ok := ofText(s)
	if !ok {
		return api.Any, api.ErrRel
	}
	r.at += len(s)
	return o.op, api.OK
}
