package pace

import (
	"iter"
	"math/bits"
)

// Luby: the i-th number of Luby's sequence, from 1 on; 0 below.
func Luby(i int) int {
	if i < 1 {
		return 0
	}
	for {
		// The next power of two may lie beyond the greatest int, so it is asked by its half.
		half := 1 << (bits.Len(uint(i)) - 1)
		if i-half == half-1 {
			return half
		}
		i -= half - 1
	}
}

// Seq: Luby's sequence, without an end.
func Seq() iter.Seq[int] {
	return func(yield func(int) bool) {
		for i := 1; yield(Luby(i)); i++ {
		}
	}
}
