package pack_test

import (
	"bytes"
	"math/big"
	"strconv"
	"testing"

	"depot/api"
	"depot/drat"
	"depot/pack"
)

// byBits: the number's bytes, cut out of its digits in twos.
func byBits(n *big.Int) []byte {
	digits := n.Text(2)
	var out []byte
	for len(digits) > 7 {
		piece, _ := strconv.ParseUint(digits[len(digits)-7:], 2, 8)
		out = append(out, byte(piece)+128)
		digits = digits[:len(digits)-7]
	}
	piece, _ := strconv.ParseUint(digits, 2, 8)
	return append(out, byte(piece))
}

// ofPieces: what the bytes' pieces add up to.
func ofPieces(b []byte) *big.Int {
	sum := new(big.Int)
	for k, piece := range b {
		part := big.NewInt(int64(piece % 128))
		sum.Add(sum, part.Lsh(part, uint(7*k)))
	}
	return sum
}

// byWords: what Take answers by the document's words: the number is one just if these are its bytes, and it is below 2^64.
func byWords(b []byte) (uint64, int, api.Errno) {
	for size := 1; size <= len(b); size++ {
		if b[size-1] >= 128 && size < 10 {
			continue
		}
		n := ofPieces(b[:size])
		if !n.IsUint64() || !bytes.Equal(byBits(n), b[:size]) {
			return 0, 0, api.ErrVarint
		}
		return n.Uint64(), size, api.OK
	}
	return 0, 0, api.ErrEnd
}

// literals: each number's literal, found the other way round: by going through all literals.
func literals() map[uint64]int {
	out := map[uint64]int{}
	for v := 1; v <= api.MaxVar; v++ {
		out[uint64(2*v)], out[uint64(2*v)+1] = v, -v
	}
	return out
}

var literal = literals()

// stepsByWords: what Decode answers by the document's words.
func stepsByWords(b []byte) ([]api.Step, api.Errno, int) {
	var out []api.Step
	for at := 0; at < len(b); {
		if b[at] != 97 && b[at] != 100 {
			return nil, api.ErrByte, at
		}
		step := api.Step{Drop: b[at] == 100}
		for at++; ; {
			n, size, e := byWords(b[at:])
			l, isLit := literal[n]
			switch {
			case e == api.ErrEnd:
				return nil, e, len(b)
			case e == api.ErrVarint:
				return nil, e, at
			case n != 0 && !isLit:
				return nil, api.ErrLit, at
			}
			at += size
			if n == 0 {
				break
			}
			step.Lits = append(step.Lits, l)
		}
		out = append(out, step)
	}
	return out, api.OK, 0
}

// asWords: Take, Decode and Open answer what the document's words say; Decode's error.
func asWords(t *testing.T, b []byte) api.Errno {
	t.Helper()
	want, many, wantE := byWords(b)
	if n, size, e := pack.Take(b); n != want || size != many || e != wantE {
		t.Fatalf("Take(%v) = %d, %d, %d, not %d, %d, %d", b, n, size, e, want, many, wantE)
	}
	steps, fault, place := stepsByWords(b)
	if l, e, at := pack.Decode(b); !equal(l, steps) || e != fault || at != place {
		t.Fatalf("Decode(%v) = %v, %d, %d, not %v, %d, %d", b, l, e, at, steps, fault, place)
	}
	opened, openE, openAt := steps, fault, place
	if l, e, _ := drat.Read(string(b)); e == api.OK {
		opened, openE, openAt = l, api.OK, 0
	}
	if l, e, at := pack.Open(b); !equal(l, opened) || e != openE || at != openAt {
		t.Fatalf("Open(%v) = %v, %d, %d, not %v, %d, %d", b, l, e, at, opened, openE, openAt)
	}
	return fault
}

// lists: all lists of up to so many of the bytes.
func lists(most int, of ...byte) [][]byte {
	out := [][]byte{{}}
	for from := 0; most > 0; most-- {
		to := len(out)
		for _, b := range out[from:to] {
			for _, further := range of {
				out = append(out, append(bytes.Clone(b), further))
			}
		}
		from = to
	}
	return out
}

// P10.1: each number of up to three bytes, and each near a power of two, has the bytes that its digits in twos say.
func TestNumbersByBits(t *testing.T) {
	same := func(n uint64) {
		if b, want := pack.Number(n), byBits(new(big.Int).SetUint64(n)); !bytes.Equal(b, want) {
			t.Fatalf("Number(%d) = %v, not %v", n, b, want)
		}
	}
	for n := range uint64(1 << 18) {
		same(n)
	}
	for k := range 64 {
		for off := range uint64(400) {
			same(1<<k + off - 200)
			same(1<<k | off*0x0102040810204081)
		}
	}
}

// P10.2, P10.4, P10.5: every short list of bytes is read as the document's words say.
func TestShortLists(t *testing.T) {
	seen := map[api.Errno]int{}
	for _, b := range append(lists(6, 0, 1, 2, 97, 100, 128, 255), lists(5, 'd', ' ', '1', '0', '\n', 'c', 0, 'a', 130)...) {
		seen[asWords(t, b)]++
	}
	for _, e := range []api.Errno{api.OK, api.ErrByte, api.ErrVarint, api.ErrLit, api.ErrEnd} {
		if seen[e] < 50 {
			t.Errorf("only %d lists with the error %d", seen[e], e)
		}
	}
}

// P10.2, P10.4: every list of one byte and of two, alone, within a step, and as the end of a number.
func TestAllBytes(t *testing.T) {
	for a := range 256 {
		asWords(t, []byte{byte(a)})
		for b := range 256 {
			two := []byte{byte(a), byte(b)}
			asWords(t, two)
			asWords(t, []byte{97, two[0], two[1], 0})
			asWords(t, append(times(8, 255), two...))
			asWords(t, append([]byte{100, 2, 128, 128}, two...))
			asWords(t, append([]byte{97, 130, 128, 128}, two...))
		}
	}
}

// P10.4: each number near the literals' edges, and each power of two, is a literal's or not.
func TestNumbersOfLiterals(t *testing.T) {
	near := func(middle uint64) {
		for off := range uint64(40) {
			b := append([]byte{97}, byBits(new(big.Int).SetUint64(middle+off-20))...)
			asWords(t, append(b, 0))
		}
	}
	near(2*api.MaxVar + 1)
	for k := range 64 {
		near(1 << k)
	}
}

// P10.2, P10.4, P10.5: bytes changed, taken out or put in, and bytes drawn.
func TestSpoiltLists(t *testing.T) {
	draw := drawn(1)
	faults := 0
	for range 20000 {
		b, _ := pack.Encode(draw.steps())
		if asWords(t, draw.spoilt(b)) != api.OK {
			faults++
		}
		further := draw.bytes(13)
		asWords(t, further)
		asWords(t, append(b, further...))
		s, _ := drat.Write(draw.steps())
		asWords(t, draw.spoilt([]byte(s)))
	}
	if faults < 5000 || faults > 19000 {
		t.Errorf("%d of 20000 have a fault", faults)
	}
}
