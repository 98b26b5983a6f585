package pack

import (
	"depot/api"
)

// The bytes at the edges of a step.
const (
	added   = 'a'
	dropped = 'd'
	end     = 0
)

// appendStep: the bytes, and behind them the step's; its clause is sound.
func appendStep(out []byte, step api.Step) []byte {
	kind := byte(added)
	if step.Drop {
		kind = dropped
	}
	out = append(out, kind)
	for _, l := range step.Lits {
		laid, size := lay(numberOf(l))
		out = append(out, laid[:size]...)
	}
	return append(out, end)
}

// reader takes steps from bytes.
type reader struct {
	bytes []byte
	at    int   // up to here they are taken; behind a refusal it is the fault's place
	lits  []int // of the clause that is read: memory that serves all of them
}

// step takes the step that begins here, where there is a byte.
func (r *reader) step() (step api.Step, e api.Errno) {
	switch r.bytes[r.at] {
	case dropped:
		step.Drop = true
		fallthrough
	case added:
		r.at++
		step.Lits, e = r.clause()
	default:
		e = api.ErrByte
	}
	return step, e
}

// clause takes literals up to the byte that ends them.
func (r *reader) clause() ([]int, api.Errno) {
	r.lits = r.lits[:0]
	for {
		n, size, e := Take(r.bytes[r.at:])
		if e == api.ErrEnd {
			r.at = len(r.bytes)
		}
		if e != api.OK {
			return nil, e
		}
		if n == end {
			r.at += size
			return append([]int(nil), r.lits...), api.OK
		}
		l := literalOf(n)
		if l == 0 {
			return nil, api.ErrLit
		}
		r.at += size
		r.lits = append(r.lits, l)
	}
}
