package trail

import "depot/lits"

// start is the place in the row where something begins.
type start struct{ at int }

// ahead: what of the row stands ahead of it.
func (s start) ahead(row []int) []int { return row[:s.at] }

// behind: what of the row stands there and behind it.
func (s start) behind(row []int) []int { return row[s.at:] }

// level is where a level begins, and with which decision; level 0 begins with none (0), which is no literal.
type level struct {
	start
	decision int
}

// decides: is the level's decision the variable's literal?
func (k level) decides(v int) bool { return lits.Var(k.decision) == v }
