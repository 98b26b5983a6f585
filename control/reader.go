package control

import (
	"strings"

	"depot/api"
)

// What a line is.
type kind int

const (
	none   kind = iota // there is no line left
	unfair             // it holds bytes that it may not
	gap
	remark
	more // it goes on with a field
	head // it is a field, or would be one
)

// reader makes stanzas of lines.
type reader struct {
	left   string         // what stands behind the present line
	text   string         // the present line
	line   int            // its number
	name   string         // of the field that is open
	value  []byte         // of that field, so far
	stanza api.Stanza     // the present one, without the field that is open
	last   map[string]int // by a name in small letters: the Line of the last stanza that has it
	all    []api.Stanza
}

// run reads all lines, and stops at the first with a fault.
func (r *reader) run() api.Errno {
	var now kind

between: // no stanza has begun
	switch r.next() {
	case none:
		return api.OK
	case unfair:
		return api.ErrText
	case gap, remark:
		goto between
	case more:
		return api.ErrField
	}
	r.stanza.Line = r.line

beginning: // the present line begins a field
	if e := r.begin(); e != api.OK {
		return e
	}

within: // a field is open
	now = r.next()
	switch now {
	case unfair:
		return api.ErrText
	case remark:
		goto within
	case more:
		r.goOn()
		goto within
	}
	r.endField()
	if now == head {
		goto beginning
	}
	r.endStanza()
	goto between
}

// next goes to the next line, and answers what it is.
func (r *reader) next() kind {
	if r.left == "" {
		return none
	}
	r.text, r.left, _ = strings.Cut(r.left, "\n")
	r.line++
	switch {
	case !isFair(r.text):
		return unfair
	case trimmed(r.text) == "":
		return gap
	case r.text[0] == '#':
		return remark
	case r.text[0] == ' ' || r.text[0] == '\t':
		return more
	}
	return head
}

// begin opens the field of the present line, if it is one.
func (r *reader) begin() api.Errno {
	name, value, found := strings.Cut(r.text, ":")
	if !found || !isName(name) {
		return api.ErrField
	}
	small := folded(name)
	if r.last[small] == r.stanza.Line {
		return api.ErrTwice
	}
	r.last[small] = r.stanza.Line
	r.name, r.value = name, append(r.value[:0], trimmed(value)...)
	return api.OK
}

// goOn puts the present line to the value that is open.
func (r *reader) goOn() {
	r.value = append(r.value, '\n')
	r.value = append(r.value, trimmed(r.text)...)
}

// endField puts the field that is open to the stanza, as copies that don't hold on to what came in.
func (r *reader) endField() {
	r.stanza.Fields = append(r.stanza.Fields, api.Field{Name: strings.Clone(r.name), Value: string(r.value)})
}

// endStanza puts the stanza to those that are whole.
func (r *reader) endStanza() {
	r.all = append(r.all, r.stanza)
	r.stanza = api.Stanza{}
}
