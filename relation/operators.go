package relation

import (
	"depot/api"
	"depot/version"
)

// operator is a relation of a version to another one: how it is written, and between which two answers of version.Cmp it holds.
type operator struct {
	op          int
	text        string
	least, most int
}

var operators = [...]operator{
	{api.Below, "<<", -1, -1},
	{api.AtMost, "<=", -1, 0},
	{api.Same, "=", 0, 0},
	{api.AtLeast, ">=", 0, 1},
	{api.Above, ">>", 1, 1},
}

// ofOp: the operator of that Op; Any has none.
func ofOp(op int) (operator, bool) {
	for _, o := range operators {
		if o.op == op {
			return o, true
		}
	}
	return operator{}, false
}

// ofText: the operator that is written so.
func ofText(text string) (operator, bool) {
	for _, o := range operators {
		if o.text == text {
			return o, true
		}
	}
	return operator{}, false
}

// meets: does the version meet that of a relation that is well shaped?
func meets(v string, r api.Rel) (bool, api.Errno) {
	if !version.Legal(v) {
		return false, api.ErrVersion
	}
	o, ok := ofOp(r.Op)
	if !ok {
		return true, api.OK
	}
	c, e := version.Cmp(v, r.Version)
	return o.least <= c && c <= o.most, e
}
