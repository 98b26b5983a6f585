package forward_test

import (
	"testing"

	"depot/api"
	"depot/forward"
	"depot/rup"
)

// chain: a formula whose variables 1 to n say each the next.
func chain(n int) api.Formula {
	f := form(n)
	for v := 1; v < n; v++ {
		f.Clauses = append(f.Clauses, c(-v, v+1))
	}
	return f
}

// Any argument: a row of literals, each saying the next, at the greatest number of variables.
func TestLongChain(t *testing.T) {
	const n = api.MaxVar
	w := made(t, chain(n))
	knows(t, w)
	adds(t, w, c(-1, n), rup.Rup)
	adds(t, w, c(1, n), rup.None)
	adds(t, w, c(-n, 1), rup.None)
	drops(t, w, c(-n/2, n/2+1), forward.Gone)
	drops(t, w, c(n, -1), forward.Gone)
	adds(t, w, c(-2, n), rup.None)
	adds(t, w, c(-1, n/2), rup.Rup)
	adds(t, w, c(-n/2-1, n), rup.Rup)
	if got := len(w.Clauses()); got != n {
		t.Errorf("%d clauses", got)
	}
}

// Any argument: a clause as long as variables allow, whose literals become false one behind the other.
func TestLongClause(t *testing.T) {
	const n = 300000
	f := chain(n)
	var long []int
	for v := n; v > 0; v-- {
		long = append(long, -v)
	}
	f.Clauses = append(f.Clauses, long)
	w := made(t, f)
	adds(t, w, long, rup.Rup)
	adds(t, w, long[1:], rup.Rup)
	drops(t, w, long[1:], forward.Gone)
	drops(t, w, long, forward.Gone)
	adds(t, w, c(-1), rup.Rup)
	knows(t, w, -1)
	drops(t, w, long, forward.Gone)
	drops(t, w, long, forward.Missing)
}

// Any argument: many clauses that share their literals are taken out and added again, and it takes no longer the more of them there are.
func TestManyAlike(t *testing.T) {
	const n = 200000
	f := form(n+3, c(1, 2))
	for k := range n {
		f.Clauses = append(f.Clauses, c(1, 2, k+4))
	}
	w := made(t, f)
	for range 2 {
		for k := range n {
			drops(t, w, c(k+4, 2, 1), forward.Gone)
		}
		has(t, w, c(1, 2))
		for k := range n {
			adds(t, w, c(2, k+4, 1), rup.Rup)
		}
		if got := len(w.Clauses()); got != n+1 {
			t.Errorf("%d clauses", got)
		}
	}
}

// P11.5, Any argument: a proof of many steps over many clauses, with and without drops.
func TestLongProof(t *testing.T) {
	const n = 100000
	f := chain(n)
	f.Clauses = append(f.Clauses, c(1, 2), c(-n, -n+1))
	var proof []api.Step
	for v := 1; v+2 <= n; v++ {
		proof = append(proof, add(-v, v+2), drop(v+2, -v))
	}
	at := len(proof)
	proof = append(proof, add(-n), add())
	ends(t, f, api.Accepted, at+1, proof...)
	ends(t, f, api.Short, at, proof[:at]...)
	ends(t, f, api.Refused, at, append(proof[:at:at], add())...)
	ends(t, f, api.Absent, at, append(proof[:at:at], drop(-1, 3), add(-n))...)
}

// Any argument: many safe clauses over many others.
func TestManySafe(t *testing.T) {
	const n = 20000
	w := made(t, chain(n))
	for k := range 100 {
		adds(t, w, c(n+k+1, -k-1), rup.Rat)
		adds(t, w, c(-n-k-1, k+1), rup.Rat)
		adds(t, w, c(k+2, -n-k-1), rup.Rup)
	}
	if got := len(w.Clauses()); got != n+299 {
		t.Errorf("%d clauses", got)
	}
}
