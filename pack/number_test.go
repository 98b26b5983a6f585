package pack_test

import (
	"bytes"
	"slices"
	"testing"

	"depot/api"
	"depot/pack"
)

// number: these are the number's bytes, and Take takes them, alone and with other bytes behind.
func number(t *testing.T, n uint64, want ...byte) {
	t.Helper()
	if b := pack.Number(n); !bytes.Equal(b, want) {
		t.Errorf("Number(%d) = %v, not %v", n, b, want)
	}
	for _, behind := range [][]byte{{}, {0}, {1}, {127}, {128}, {255}, {0, 0, 0}, {128, 0}, bytes.Repeat([]byte{255}, 20)} {
		takes(t, slices.Concat(want, behind), n, len(want))
	}
}

// takes: Take finds that number in so many bytes.
func takes(t *testing.T, b []byte, want uint64, many int) {
	t.Helper()
	if n, size, e := pack.Take(b); n != want || size != many || e != api.OK {
		t.Errorf("Take(%v) = %d, %d, %d, not %d, %d", b, n, size, e, want, many)
	}
}

// takesNone: Take refuses, and answers nothing besides.
func takesNone(t *testing.T, b []byte, want api.Errno) {
	t.Helper()
	if n, size, e := pack.Take(b); n != 0 || size != 0 || e != want {
		t.Errorf("Take(%v) = %d, %d, %d, not error %d", b, n, size, e, want)
	}
}

// times: so many bytes that are alike, and further ones.
func times(n int, b byte, further ...byte) []byte {
	return append(bytes.Repeat([]byte{b}, n), further...)
}

// P10.1, P10.2: ordinary numbers, and the chapter's own.
func TestNumber(t *testing.T) {
	number(t, 0, 0)
	number(t, 1, 1)
	number(t, 7, 7)
	number(t, 127, 127)
	number(t, 128, 128, 1)
	number(t, 129, 129, 1)
	number(t, 255, 255, 1)
	number(t, 256, 128, 2)
	number(t, 300, 172, 2)
	number(t, 16383, 255, 127)
	number(t, 16384, 128, 128, 1)
	number(t, 1<<20, 128, 128, 64)
	number(t, 1<<63, times(9, 128, 1)...)
	number(t, 1<<64-1, times(9, 255, 1)...)
}

// P10.1: the lowest piece stands first, and each piece is told from the others.
func TestNumberOrder(t *testing.T) {
	number(t, 1|2<<7|3<<14|4<<21|5<<28|6<<35|7<<42|8<<49|9<<56|1<<63, 129, 130, 131, 132, 133, 134, 135, 136, 137, 1)
	number(t, 127<<7, 128, 127)
	number(t, 1<<14|1, 129, 128, 1)
	number(t, 3<<56|127<<21, 128, 128, 128, 255, 128, 128, 128, 128, 3)
}

// P10.1, P10.2: each length from one byte to ten: the least number of so many bytes, the one behind it, and the greatest one of a byte less.
func TestNumberLengths(t *testing.T) {
	for size := 2; size <= 10; size++ {
		least := uint64(1) << (7 * (size - 1))
		number(t, least, times(size-1, 128, 1)...)
		number(t, least+1, append([]byte{129}, times(size-2, 128, 1)...)...)
		number(t, least-1, times(size-2, 255, 127)...)
	}
	number(t, 1<<64-2, append([]byte{254}, times(8, 255, 1)...)...)
}

// P10.2: bytes that end within a number, however long it is by then.
func TestTakeEnds(t *testing.T) {
	takesNone(t, nil, api.ErrEnd)
	takesNone(t, []byte{}, api.ErrEnd)
	for size := 1; size <= 9; size++ {
		for _, b := range []byte{128, 129, 200, 255} {
			takesNone(t, times(size, b), api.ErrEnd)
		}
	}
	whole := pack.Number(1<<64 - 1)
	for size := range whole {
		takesNone(t, whole[:size], api.ErrEnd)
	}
}

// P10.2: what stands behind the list's end doesn't belong to it.
func TestTakeKeepsToTheList(t *testing.T) {
	takesNone(t, []byte{1, 2, 3}[:0], api.ErrEnd)
	takesNone(t, []byte{128, 1}[:1], api.ErrEnd)
	takesNone(t, times(9, 128, 1)[:9], api.ErrEnd)
}

// P10.2: a last byte 0 that isn't the first, at each place; the first one is the number 0.
func TestTakeLastNought(t *testing.T) {
	takes(t, []byte{0}, 0, 1)
	takes(t, []byte{0, 0}, 0, 1)
	for size := 1; size <= 9; size++ {
		for _, b := range []byte{128, 129, 255} {
			takesNone(t, times(size, b, 0), api.ErrVarint)
			takesNone(t, times(size, b, 0, 1), api.ErrVarint)
			takesNone(t, times(size, b, 0, 0, 128), api.ErrVarint)
			takes(t, times(size, b, 1, 0), sum(times(size, b, 1)), size+1)
		}
	}
}

// sum: the number of these bytes' pieces.
func sum(b []byte) (n uint64) {
	for k := range b {
		n += uint64(b[k]&127) << (7 * k)
	}
	return n
}

// P10.2: a nought within a number isn't its last byte.
func TestTakeNoughtPieces(t *testing.T) {
	takes(t, []byte{128, 128, 1}, 1<<14, 3)
	takes(t, []byte{129, 128, 128, 2}, 2<<21+1, 4)
}

// P10.2: of the tenth byte 0 and all above 1 are refused, whatever stands behind; 1 is the last one.
func TestTakeTenth(t *testing.T) {
	for b := range 256 {
		for _, high := range []byte{128, 255} {
			for _, behind := range [][]byte{{}, {0}, {1}, {128}} {
				ten := slices.Concat(times(9, high, byte(b)), behind)
				if b == 1 {
					takes(t, ten, sum(times(9, high, 1)), 10)
				} else {
					takesNone(t, ten, api.ErrVarint)
				}
			}
		}
	}
}

// P10.2: every byte as the first one and as the second.
func TestTakeAllBytes(t *testing.T) {
	for a := range 256 {
		first := byte(a)
		if a < 128 {
			takes(t, []byte{first}, uint64(a), 1)
			takes(t, []byte{first, 255}, uint64(a), 1)
			continue
		}
		takesNone(t, []byte{first}, api.ErrEnd)
		for b := range 256 {
			switch two := []byte{first, byte(b)}; {
			case b == 0:
				takesNone(t, two, api.ErrVarint)
			case b < 128:
				takes(t, two, uint64(a-128+128*b), 2)
			default:
				takesNone(t, two, api.ErrEnd)
			}
		}
	}
}
