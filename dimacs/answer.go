package dimacs

import (
	"strconv"

	"depot/api"
	"depot/lits"
)

// The words of an answer.
const (
	mark  = "s" // begins the line that says how the search ended
	yes   = "SATISFIABLE"
	no    = "UNSATISFIABLE"
	value = "v" // begins a line of a model
)

// maxLine is how many bytes a line of a model has at most, its line feed not counted.
const maxLine = 78

// ReadAnswer: what an answer's text says; the line of a fault.
func ReadAnswer(s string) (sat bool, m []bool, e api.Errno, line int) {
	t := text{left: s}
	sat, e = verdict(&t)
	switch {
	case e != api.OK:
	case sat:
		m, e = model(&t)
	case t.next():
		e = api.ErrAnswer
	}
	if e != api.OK {
		return false, nil, e, t.line
	}
	return sat, m, api.OK, 0
}

// WriteAnswer: an answer's text.
func WriteAnswer(sat bool, m []bool) string {
	if !sat {
		return mark + " " + no + "\n"
	}
	out := []byte(mark + " " + yes + "\n")
	begin := len(out)
	out = append(out, value...)
	put := func(n int) {
		digits := strconv.Itoa(n)
		if len(out)-begin+1+len(digits) > maxLine {
			out = append(out, '\n')
			begin = len(out)
			out = append(out, value...)
		}
		out = append(out, ' ')
		out = append(out, digits...)
	}
	for k, is := range m {
		if is {
			put(k + 1)
		} else {
			put(-(k + 1))
		}
	}
	put(0)
	return string(append(out, '\n'))
}

// verdict reads the first line that isn't idle: whether it says SATISFIABLE.
func verdict(t *text) (bool, api.Errno) {
	if !t.next() || t.word() != mark {
		return false, api.ErrAnswer
	}
	said := t.word()
	if said != yes && said != no || t.word() != "" {
		return false, api.ErrAnswer
	}
	return said == yes, api.OK
}

// model reads the lines behind SATISFIABLE; the text stands then at what is wrong, or at its end.
func model(t *text) ([]bool, api.Errno) {
	var m []bool
	ended := false
	e := api.OK
reading:
	for t.next() {
		if t.word() != value {
			e = api.ErrAnswer
			break reading
		}
		for word := t.word(); word != ""; word = t.word() {
			n, isNumber := number(word)
			switch {
			case ended:
				e = api.ErrAnswer
				break reading
			case !isNumber:
				e = api.ErrToken
				break reading
			case n == 0:
				ended = true
			// What is beyond MaxVar is no literal and has no variable, so it is never the one that is due.
			case lits.Var(n) != len(m)+1:
				e = api.ErrLit
				break reading
			default:
				m = append(m, n > 0)
			}
		}
	}
	if e == api.OK && !ended {
		e = api.ErrEnd
	}
	return m, e
}
