package pack_test

import (
	"strings"
	"testing"

	"depot/api"
	"depot/pack"
)

// opens: these are the steps, OK and 0.
func opens(t *testing.T, b []byte, want ...api.Step) {
	t.Helper()
	if l, e, at := pack.Open(b); e != api.OK || at != 0 || !equal(l, want) {
		t.Errorf("Open(%.80q) = %v, %d, %d, not %v", b, cut(l), e, at, cut(want))
	}
}

// opensNot: it is neither, and this is what is wrong with it as bytes.
func opensNot(t *testing.T, b []byte, want api.Errno, place int) {
	t.Helper()
	if l, e, at := pack.Open(b); e != want || at != place || len(l) != 0 {
		t.Errorf("Open(%.80q) = %v, %d, %d, not error %d at %d", b, cut(l), e, at, want, place)
	}
	refuses(t, b, want, place)
}

// P10.5: texts, with remarks and other lines too, and such as have no steps.
func TestOpenText(t *testing.T) {
	opens(t, []byte("1 -2 0"), add(1, -2))
	opens(t, []byte("c a remark\n1 -2 0\n"), add(1, -2))
	opens(t, []byte("1 -2 0\nd 3 0\n0\n"), add(1, -2), drop(3), add())
	opens(t, []byte("d\n1\nc\n0 2 2 0"), drop(1), add(2, 2))
	opens(t, []byte("d 0"), drop())
	opens(t, []byte("d 1 0\n"), drop(1))
	opens(t, []byte("1048576 -1048576 0"), add(api.MaxVar, -api.MaxVar))
	for _, s := range []string{"\n", " \t", "c", "c a\n", "\n\nc\n"} {
		opens(t, []byte(s))
	}
}

// P10.5: packed bytes, those among them that begin as a text does.
func TestOpenBytes(t *testing.T) {
	opens(t, []byte{97, 2, 5, 0}, add(1, -2))
	opens(t, []byte{97, 2, 5, 0, 100, 0, 97, 126, 128, 1, 0}, add(1, -2), drop(), add(63, 64))
	opens(t, []byte{97, 0}, add())
	opens(t, []byte{100, 0}, drop())
	opens(t, []byte("d 0\x00"), drop(16, 24))
	opens(t, []byte("d 1 0\n\x00"), drop(16, -24, 16, 24, 5))
	opens(t, []byte("d\n1 0\nc \x00"), drop(5, -24, 16, 24, 5, -49, 16))
	opens(t, []byte("d 1 0\nc\nd 2 0\n\x00"), drop(16, -24, 16, 24, 5, -49, 5, 50, 16, 25, 16, 24, 5))
}

// P10.5: no bytes at all.
func TestOpenNothing(t *testing.T) {
	opens(t, nil)
	opens(t, []byte{})
	opens(t, []byte("1 0")[:0])
}

// P10.5: what is neither has the fault that it has as bytes, not the text's.
func TestOpenNeither(t *testing.T) {
	opensNot(t, []byte("x"), api.ErrByte, 0)
	opensNot(t, []byte("d 1"), api.ErrEnd, 3)
	opensNot(t, []byte("d 1 \x01 "), api.ErrLit, 4)
	opensNot(t, []byte("1 2"), api.ErrByte, 0)
	opensNot(t, []byte("1 0\nx"), api.ErrByte, 0)
	opensNot(t, []byte("1 0\n\n2 x 0\n"), api.ErrByte, 0)
	opensNot(t, []byte("c \x00"), api.ErrByte, 0)
	opensNot(t, []byte("0\x00"), api.ErrByte, 0)
	opensNot(t, []byte("dd 0"), api.ErrEnd, 4)
	opensNot(t, []byte("a 1 0"), api.ErrEnd, 5)
	opensNot(t, []byte("d 0 \x00x"), api.ErrByte, 5)
	opensNot(t, []byte("d \x80\x00 0"), api.ErrVarint, 2)
	opensNot(t, []byte{97, 1, 0}, api.ErrLit, 1)
	opensNot(t, []byte{97, 2, 130, 0, 0}, api.ErrVarint, 2)
	opensNot(t, []byte{97, 0, 7}, api.ErrByte, 2)
	opensNot(t, []byte{97, 2}, api.ErrEnd, 2)
	opensNot(t, []byte{255}, api.ErrByte, 0)
}

// P10.5: packed bytes and a text, one behind the other, are neither.
func TestOpenBothTogether(t *testing.T) {
	opensNot(t, []byte("a\x02\x001 0\n"), api.ErrByte, 3)
	opensNot(t, []byte("1 0\na\x02\x00"), api.ErrByte, 0)
}

// P10.5: a long text, and one with a fault at its end.
func TestOpenLarge(t *testing.T) {
	s := strings.Repeat("d 0 ", 100000)
	l, e, at := pack.Open([]byte(s))
	if len(l) != 100000 || e != api.OK || at != 0 {
		t.Errorf("Open of a long text: %d steps, %d, %d", len(l), e, at)
	}
	opensNot(t, []byte(s+"x"), api.ErrEnd, len(s)+1)
}
