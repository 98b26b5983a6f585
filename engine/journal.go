package engine

import (
	"slices"

	"depot/api"
)

// journal is told which clauses come in and go; the log stands behind it.
type journal interface {
	added(c []int)
	takenOut(c []int)
	steps() []api.Step
}

// log is a journal that keeps all that it is told.
type log struct {
	kept []api.Step
}

func (k *log) added(c []int) { k.keep(api.Step{Lits: c}) }

func (k *log) takenOut(c []int) { k.keep(api.Step{Drop: true, Lits: c}) }

func (k *log) keep(s api.Step) { k.kept = append(k.kept, own(s)) }

func (k *log) steps() []api.Step {
	out := make([]api.Step, 0, len(k.kept))
	for _, s := range k.kept {
		out = append(out, own(s))
	}
	return out
}

// own: the step in memory of its own.
func own(s api.Step) api.Step {
	s.Lits = slices.Clone(s.Lits)
	return s
}
