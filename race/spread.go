package race

import (
	"slices"

	"depot/api"
)

// How many phases, bases and decays the configs have. No two of these numbers have a divisor in common, so the three remainders of a number below 3 times 5 times 7 tell it from every other one: no two configs are alike, and each is unlike the next in all three.
const (
	phases = 3
	bases  = 5
	decays = 7
)

// spread: the config, and others that begin anew, forget and try values in another way.
func spread(c api.Config, n int) []api.Config {
	phase := beside(c.Phase, []int{api.PhaseFalse, api.PhaseTrue, api.PhaseKept})
	base := beside(c.Base, []int{20, 500, 50, 1000, 100})
	decay := beside(c.Decay, []float64{0.8, 0.99, 0.9, 0.7, 0.95, 0.999, 0.85})
	out := make([]api.Config, n)
	for k := range out {
		out[k] = c
		out[k].Phase, out[k].Base, out[k].Decay = phase[k%phases], base[k%bases], decay[k%decays]
	}
	return out
}

// beside: the one that is given, and those of the others that it isn't.
func beside[T comparable](one T, others []T) []T {
	return append([]T{one}, slices.DeleteFunc(others, func(x T) bool { return x == one })...)
}
