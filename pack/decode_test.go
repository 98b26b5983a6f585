package pack_test

import (
	"bytes"
	"slices"
	"testing"

	"depot/api"
	"depot/pack"
)

// equal: are both the same steps, literal by literal?
func equal(a, b []api.Step) bool {
	return slices.EqualFunc(a, b, func(x, y api.Step) bool {
		return x.Drop == y.Drop && slices.Equal(x.Lits, y.Lits)
	})
}

// decodes: these are the steps of the bytes.
func decodes(t *testing.T, b []byte, want ...api.Step) {
	t.Helper()
	if l, e, at := pack.Decode(b); e != api.OK || at != 0 || !equal(l, want) {
		t.Errorf("Decode(%v) = %v, %d, %d, not %v", cut(b), cut(l), e, at, cut(want))
	}
}

// refuses: the bytes have that fault first, at that place; nothing is answered besides.
func refuses(t *testing.T, b []byte, want api.Errno, place int) {
	t.Helper()
	l, e, at := pack.Decode(b)
	if e != want || at != place {
		t.Errorf("Decode(%v): error %d at %d, not %d at %d", cut(b), e, at, want, place)
	}
	if len(l) != 0 {
		t.Errorf("Decode(%v): %v beside an error", cut(b), l)
	}
}

// P10.4: ordinary proofs, and the chapter's own.
func TestDecode(t *testing.T) {
	decodes(t, []byte{97, 2, 5, 0}, add(1, -2))
	decodes(t, []byte{100, 2, 5, 0}, drop(1, -2))
	decodes(t, []byte{97, 2, 5, 0, 100, 0, 97, 126, 128, 1, 0}, add(1, -2), drop(), add(63, 64))
	decodes(t, []byte{97, 4, 0, 97, 0}, add(2), add())
	decodes(t, []byte{97, 2, 0, 100, 2, 0, 97, 3, 0}, add(1), drop(1), add(-1))
	decodes(t, []byte{97, 128, 128, 128, 1, 0}, add(api.MaxVar))
}

// P10.4: of no bytes there are no steps.
func TestDecodeNothing(t *testing.T) {
	decodes(t, nil)
	decodes(t, []byte{})
	decodes(t, []byte{97, 0}[:0])
}

// P10.4: the empty clause, added and taken out.
func TestDecodeEmptyClause(t *testing.T) {
	decodes(t, []byte{97, 0}, add())
	decodes(t, []byte{100, 0}, drop())
	decodes(t, []byte{97, 0, 97, 0, 100, 0, 97, 0, 100, 0}, add(), add(), drop(), add(), drop())
	decodes(t, []byte{97, 2, 0, 97, 0, 97, 4, 0}, add(1), add(), add(2))
}

// P10.4: literals as they stand; the bytes of a step's kind are numbers elsewhere.
func TestDecodeAsTheyStand(t *testing.T) {
	decodes(t, []byte{97, 6, 7, 2, 6, 3, 0, 100, 4, 4, 0}, add(3, -3, 1, 3, -1), drop(2, 2))
	decodes(t, []byte{97, 97, 100, 0, 100, 100, 97, 0}, add(-48, 50), drop(50, -48))
}

// P10.4: the greatest literal and the least one, and where the numbers become longer.
func TestDecodeEdges(t *testing.T) {
	decodes(t, []byte{97, 128, 128, 128, 1, 129, 128, 128, 1, 0}, add(api.MaxVar, -api.MaxVar))
	decodes(t, []byte{100, 129, 128, 128, 1, 0}, drop(-api.MaxVar))
	decodes(t, []byte{97, 2, 3, 126, 127, 128, 1, 129, 1, 0}, add(1, -1, 63, -63, 64, -64))
	decodes(t, []byte{100, 254, 127, 255, 127, 128, 128, 1, 129, 128, 1, 0}, drop(8191, -8191, 8192, -8192))
	decodes(t, []byte{97, 254, 255, 127, 255, 255, 127, 0}, add(api.MaxVar-1, 1-api.MaxVar))
}

// P10.4: each byte where a step should begin and that is neither of the two, at the first step and behind others.
func TestDecodeByte(t *testing.T) {
	for k := range 256 {
		b := byte(k)
		if b == 97 || b == 100 {
			continue
		}
		for _, behind := range [][]byte{{}, {0}, {2, 0}, {97, 0}} {
			refuses(t, slices.Concat([]byte{b}, behind), api.ErrByte, 0)
			refuses(t, slices.Concat([]byte{97, 0, b}, behind), api.ErrByte, 2)
			refuses(t, slices.Concat([]byte{100, 2, 128, 1, 0, 97, 5, 0, b}, behind), api.ErrByte, 8)
		}
	}
}

// P10.4: a number that isn't one, at its first byte, wherever it stands in a step.
func TestDecodeVarint(t *testing.T) {
	refuses(t, []byte{97, 2, 130, 0, 0}, api.ErrVarint, 2)
	for _, bad := range [][]byte{{128, 0}, {130, 0}, {255, 255, 0}, times(9, 128, 0), times(9, 128, 2), times(9, 255, 2), times(10, 128), times(10, 255), times(9, 128, 127)} {
		for _, behind := range [][]byte{{}, {0}, {2, 0}, {2}, {0, 97, 0}} {
			for _, ahead := range [][]byte{{97}, {100}, {97, 2}, {100, 128, 1}, {97, 0, 100}, {97, 2, 5, 0, 100, 129, 128, 1, 4}} {
				refuses(t, slices.Concat(ahead, bad, behind), api.ErrVarint, len(ahead))
			}
		}
	}
}

// P10.4: a number that is no literal's, at its first byte: 1, and those beyond the greatest.
func TestDecodeLit(t *testing.T) {
	refuses(t, []byte{97, 1, 0}, api.ErrLit, 1)
	refuses(t, []byte{97, 130, 128, 128, 1, 0}, api.ErrLit, 1)
	for _, bad := range []uint64{1, 2*api.MaxVar + 2, 2*api.MaxVar + 3, 2*api.MaxVar + 4, 1 << 22, 1<<31 - 1, 1 << 31, 1<<32 - 1, 1 << 32, 1<<32 + 2, 1<<32 + 3, 1<<33 + 4, 1<<53 + 4, 1<<62 + 2, 1<<63 - 1, 1 << 63, 1<<63 + 1, 1<<63 + 2, 1<<63 + 5, 1<<64 - 3, 1<<64 - 1} {
		for _, behind := range [][]byte{{}, {0}, {2, 0}, {128}, {0, 97, 0}} {
			for _, ahead := range [][]byte{{97}, {100}, {97, 2}, {100, 128, 1}, {97, 0, 100}, {97, 2, 5, 0, 100, 129, 128, 1, 4}} {
				refuses(t, slices.Concat(ahead, pack.Number(bad), behind), api.ErrLit, len(ahead))
			}
		}
	}
}

// P10.4: bytes that end within a step, and within a number; at the end of them all.
func TestDecodeEnds(t *testing.T) {
	refuses(t, []byte{97, 2}, api.ErrEnd, 2)
	refuses(t, []byte{97}, api.ErrEnd, 1)
	refuses(t, []byte{100}, api.ErrEnd, 1)
	refuses(t, []byte{97, 128}, api.ErrEnd, 2)
	refuses(t, []byte{97, 2, 130}, api.ErrEnd, 3)
	refuses(t, []byte{97, 2, 130, 130, 130}, api.ErrEnd, 5)
	refuses(t, []byte{97, 0, 100}, api.ErrEnd, 3)
	refuses(t, []byte{97, 0, 100, 2, 128}, api.ErrEnd, 5)
	for size := range 9 {
		refuses(t, slices.Concat([]byte{100, 4}, times(size+1, 255)), api.ErrEnd, size+3)
	}
	// What stands behind the list's end doesn't belong to it.
	refuses(t, []byte{97, 2, 0}[:2], api.ErrEnd, 2)
	refuses(t, []byte{97, 128, 1, 0}[:2], api.ErrEnd, 2)
}

// P10.4: each beginning of a proof's bytes is one just where a step has ended.
func TestDecodeBeginnings(t *testing.T) {
	b := []byte{97, 2, 5, 0, 100, 0, 97, 126, 128, 1, 0, 100, 129, 128, 128, 1, 0}
	want := []api.Step{add(1, -2), drop(), add(63, 64), drop(-api.MaxVar)}
	ends := []int{0, 4, 6, 11, 17}
	for size := range len(b) + 1 {
		if k := slices.Index(ends, size); k >= 0 {
			decodes(t, b[:size], want[:k]...)
		} else {
			refuses(t, b[:size], api.ErrEnd, size)
		}
	}
}

// P10.4: of several faults the first one is told.
func TestDecodeFirst(t *testing.T) {
	refuses(t, []byte{98, 1, 130, 0}, api.ErrByte, 0)
	refuses(t, []byte{98, 97}, api.ErrByte, 0)
	refuses(t, []byte{97, 1, 130, 0, 98}, api.ErrLit, 1)
	refuses(t, []byte{97, 130, 0, 1, 98}, api.ErrVarint, 1)
	refuses(t, []byte{97, 2, 0, 98, 97, 1, 97, 130, 0}, api.ErrByte, 3)
	refuses(t, []byte{97, 1}, api.ErrLit, 1)
	refuses(t, []byte{97, 130, 0}, api.ErrVarint, 1)
	refuses(t, []byte{97, 1, 128}, api.ErrLit, 1)
	refuses(t, []byte{100, 1, 0, 97, 1, 0}, api.ErrLit, 1)
	refuses(t, []byte{100, 2, 0, 97, 3, 128, 0, 1, 0}, api.ErrVarint, 5)
	refuses(t, []byte{97, 0, 7, 97}, api.ErrByte, 2)
	refuses(t, []byte{97, 0, 7}, api.ErrByte, 2)
	// A number too great for a literal is none as long as it hasn't ended.
	refuses(t, []byte{97, 130, 128, 128, 129}, api.ErrEnd, 5)
	refuses(t, []byte{97, 130, 128, 128, 129, 0}, api.ErrVarint, 1)
}

// P10.4: many steps, and a long one; a fault behind them.
func TestDecodeLarge(t *testing.T) {
	many := bytes.Repeat([]byte{100, 11, 12, 0, 97, 0}, 100000)
	decodes(t, many, slices.Repeat([]api.Step{drop(-5, 6), add()}, 100000)...)
	refuses(t, append(many, 7), api.ErrByte, len(many))
	long := append([]byte{100}, bytes.Repeat([]byte{129, 128, 128, 1}, 1<<20)...)
	refuses(t, long, api.ErrEnd, len(long))
	decodes(t, append(long, 0), drop(slices.Repeat([]int{-api.MaxVar}, 1<<20)...))
}
