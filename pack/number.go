package pack

import (
	"depot/api"
	"depot/lits"
)

// How a number is cut into bytes.
const (
	bits       = 7         // of a number, in each byte
	follows    = 1 << bits // what a byte has more, if another one follows
	most       = 10        // bytes of a number, as many as 64 bits need
	lastOfMost = 1         // the tenth byte has one bit left to hold
)

// least is the least literal's number, by Index; the numbers of the others follow as their Indexes do.
const least = 2

// lay: the number's bytes at the head of an array, and how many they are. As an array they need no memory of their own where they are only looked at.
func lay(n uint64) (laid [most]byte, size int) {
	for n >= follows {
		laid[size] = byte(n%follows) + follows
		size++
		n >>= bits
	}
	laid[size] = byte(n)
	return laid, size + 1
}

// numberOf: the literal's number.
func numberOf(l int) uint64 {
	return uint64(lits.Index(l) + least)
}

// literalOf: the literal of that number; 0, if there is none.
func literalOf(n uint64) int {
	// Greater ones might lose their upper bits as an int.
	if n > 2*api.MaxVar+1 {
		return 0
	}
	return lits.At(int(n) - least)
}
