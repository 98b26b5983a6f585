package unit

import "math/bits"

// waiting are clauses that wait, each a bit by its number. A bit of each further level says whether a word of the level below has one, up to a level of one word: so the least number is found by one look at each level, however many wait.
type waiting [][]uint64

// room: nothing that waits, with room for that many numbers.
func room(n int) waiting {
	var w waiting
	for {
		n = (n + 63) / 64
		w = append(w, make([]uint64, max(n, 1)))
		if n <= 1 {
			return w
		}
	}
}

// none: does nothing wait?
func (w waiting) none() bool {
	return w[len(w)-1][0] == 0
}

// add puts a number to those that wait.
func (w waiting) add(n int) {
	for _, level := range w {
		was := level[n/64]
		level[n/64] |= 1 << (n % 64)
		if was != 0 {
			return
		}
		n /= 64
	}
}

// empty takes all out.
func (w waiting) empty() {
	for !w.none() {
		w.take()
	}
}

// take takes the least number out; there has to be one.
func (w waiting) take() int {
	n := 0
	for k := len(w) - 1; k >= 0; k-- {
		n = 64*n + bits.TrailingZeros64(w[k][n])
	}
	rest := n
	for _, level := range w {
		level[rest/64] &^= 1 << (rest % 64)
		if level[rest/64] != 0 {
			break
		}
		rest /= 64
	}
	return n
}
