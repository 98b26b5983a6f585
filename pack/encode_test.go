package pack_test

import (
	"bytes"
	"math"
	"slices"
	"testing"

	"depot/api"
	"depot/pack"
)

// add: a step that adds a clause.
func add(l ...int) api.Step { return api.Step{Lits: l} }

// drop: a step that takes a clause out.
func drop(l ...int) api.Step { return api.Step{Drop: true, Lits: l} }

// encodes: these are the steps' bytes.
func encodes(t *testing.T, want []byte, l ...api.Step) {
	t.Helper()
	if b, e := pack.Encode(l); !bytes.Equal(b, want) || e != api.OK {
		t.Errorf("Encode(%v) = %v, %d, not %v", l, cut(b), e, cut(want))
	}
}

// cut: the list's beginning, short enough to be shown.
func cut[E any](l []E) []E { return l[:min(len(l), 40)] }

// P10.3: both kinds of step, without literals, with one, with many; the chapter's own.
func TestEncode(t *testing.T) {
	encodes(t, []byte{97, 2, 5, 0, 100, 0, 97, 126, 128, 1, 0}, add(1, -2), drop(), add(63, 64))
	encodes(t, []byte{97, 4, 0, 97, 0}, add(2), add())
	encodes(t, []byte{97, 2, 5, 0}, add(1, -2))
	encodes(t, []byte{100, 2, 5, 0}, drop(1, -2))
	encodes(t, []byte{97, 2, 0}, add(1))
	encodes(t, []byte{97, 3, 0}, add(-1))
	encodes(t, []byte{100, 6, 0, 100, 7, 0}, drop(3), drop(-3))
	encodes(t, []byte{97, 2, 0, 100, 2, 0, 97, 3, 0}, add(1), drop(1), add(-1))
	encodes(t, []byte{100, 18, 17, 14, 13, 10, 0}, drop(9, -8, 7, -6, 5))
}

// P10.3: literals in their order, twice too, and beside their opposites.
func TestEncodeAsTheyStand(t *testing.T) {
	encodes(t, []byte{97, 6, 7, 2, 6, 3, 0, 100, 4, 4, 0}, add(3, -3, 1, 3, -1), drop(2, 2))
}

// P10.3: the empty clause, added and taken out, its list nil or not.
func TestEncodeEmptyClause(t *testing.T) {
	encodes(t, []byte{97, 0}, add())
	encodes(t, []byte{100, 0}, drop())
	encodes(t, []byte{97, 0, 100, 0, 97, 0}, api.Step{}, api.Step{Drop: true, Lits: []int{}}, api.Step{Lits: []int{1}[:0]})
}

// P10.3: of no steps there are no bytes.
func TestEncodeNothing(t *testing.T) {
	encodes(t, nil)
	encodes(t, nil, []api.Step{}...)
}

// P10.3: the greatest literal and the least one, and where the numbers become longer.
func TestEncodeEdges(t *testing.T) {
	encodes(t, []byte{97, 128, 128, 128, 1, 129, 128, 128, 1, 0}, add(api.MaxVar, -api.MaxVar))
	encodes(t, []byte{100, 129, 128, 128, 1, 0}, drop(-api.MaxVar))
	encodes(t, []byte{97, 254, 255, 127, 255, 255, 127, 0}, add(api.MaxVar-1, 1-api.MaxVar))
	encodes(t, []byte{97, 126, 127, 128, 1, 129, 1, 0}, add(63, -63, 64, -64))
	encodes(t, []byte{100, 254, 127, 255, 127, 128, 128, 1, 129, 128, 1, 0}, drop(8191, -8191, 8192, -8192))
}

// P10.3: a clause that isn't sound, wherever it stands; nothing is answered besides.
func TestEncodeShape(t *testing.T) {
	for _, bad := range []int{0, api.MaxVar + 1, -api.MaxVar - 1, 1 << 21, math.MaxInt32, math.MinInt32, math.MaxInt, math.MinInt} {
		for _, l := range [][]int{{bad}, {1, bad}, {bad, 1}, {1, -2, bad, 3}} {
			for _, steps := range [][]api.Step{{add(l...)}, {drop(l...)}, {add(1), add(l...)}, {drop(l...), add()}, {add(1, 2), drop(3), add(l...), drop(4)}} {
				if b, e := pack.Encode(steps); len(b) != 0 || e != api.ErrShape {
					t.Errorf("Encode(%v) = %v, %d, not error %d", steps, b, e, api.ErrShape)
				}
			}
		}
	}
}

// P10.3: many steps, and a long one.
func TestEncodeLarge(t *testing.T) {
	encodes(t, bytes.Repeat([]byte{100, 11, 12, 0, 97, 0}, 100000), slices.Repeat([]api.Step{drop(-5, 6), add()}, 100000)...)
	long := append([]byte{100}, bytes.Repeat([]byte{129, 128, 128, 1}, 1<<20)...)
	encodes(t, append(long, 0), drop(slices.Repeat([]int{-api.MaxVar}, 1<<20)...))
}
