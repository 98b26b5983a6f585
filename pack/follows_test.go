package pack_test

import (
	"bytes"
	"slices"
	"testing"

	"depot/api"
	"depot/drat"
	"depot/pack"
)

// drawer draws things by a rule of its own, so that they are the same at every run.
type drawer struct{ state uint64 }

func drawn(seed uint64) *drawer { return &drawer{seed} }

// next: the next bits.
func (d *drawer) next() uint64 {
	d.state = d.state*6364136223846793005 + 1442695040888963407
	return d.state
}

// Intn: a number from 0 to n - 1.
func (d *drawer) Intn(n int) int { return int(d.next() >> 33 % uint64(n)) }

// number: a number of any length.
func (d *drawer) number() uint64 { return (d.next()>>32<<32 | d.next()>>32) >> d.Intn(64) }

// bytes: up to so many of any kind.
func (d *drawer) bytes(most int) []byte {
	out := make([]byte, d.Intn(most+1))
	for k := range out {
		out[k] = byte(d.Intn(256))
	}
	return out
}

// steps: some steps, over few variables or many, empty clauses and literals twice among them.
func (d *drawer) steps() []api.Step {
	var out []api.Step
	vars := []int{1, 2, 5, 70, 10000, api.MaxVar}[d.Intn(6)]
	for range d.Intn(7) {
		step := api.Step{Drop: d.Intn(3) == 0}
		for range d.Intn(6) {
			step.Lits = append(step.Lits, (1+d.Intn(vars))*(1-2*d.Intn(2)))
		}
		out = append(out, step)
	}
	return out
}

// spoilt: the bytes with some of them changed, taken out or put in.
func (d *drawer) spoilt(b []byte) []byte {
	out := bytes.Clone(b)
	for range d.Intn(4) {
		k := d.Intn(len(out) + 1)
		put := [][]byte{{}, {0}, {1}, {2}, {97}, {100}, {127}, {128}, {129, 1}, {128, 0}, {255, 255}, {'d', ' '}, {'\n'}, {'0'}, {97, 0}}[d.Intn(15)]
		out = slices.Concat(out[:k], put, out[min(len(out), k+d.Intn(2)):])
	}
	return out
}

// packed: the steps' bytes.
func packed(t *testing.T, l []api.Step) []byte {
	t.Helper()
	b, e := pack.Encode(l)
	if e != api.OK {
		t.Fatalf("Encode(%v): error %d", l, e)
	}
	return b
}

// each: drawn steps, no steps, and the shortest ones.
func each(seed uint64, see func(l []api.Step)) {
	for _, l := range [][]api.Step{nil, {add()}, {drop()}, {add(1)}, {drop(-1)}, {add(), add()}, {drop(5), add(-5)}} {
		see(l)
	}
	draw := drawn(seed)
	for range 3000 {
		see(draw.steps())
	}
}

// P10.6: Take of Number(n), whatever stands behind, is n and Number's length.
func TestTakeOfNumber(t *testing.T) {
	draw := drawn(2)
	lengths := map[int]int{}
	for range 20000 {
		n := draw.number()
		b := pack.Number(n)
		takes(t, b, n, len(b))
		takes(t, slices.Concat(b, draw.bytes(12)), n, len(b))
		lengths[len(b)]++
	}
	for size := 1; size <= 10; size++ {
		if lengths[size] < 100 {
			t.Errorf("only %d numbers of %d bytes", lengths[size], size)
		}
	}
}

// P10.6: Decode(Encode(l)) is l.
func TestDecodeOfEncode(t *testing.T) {
	each(3, func(l []api.Step) { decodes(t, packed(t, l), l...) })
	all := []api.Step{add(), drop()}
	for v := 1; v <= api.MaxVar; v++ {
		all[0].Lits, all[1].Lits = append(all[0].Lits, -v), append(all[1].Lits, v)
		if v%4 == 0 {
			all = append(all, drop(v, 1-v), add(-v))
		}
	}
	decodes(t, packed(t, all), all...)
}

// P10.6: Encode(Decode(b)) is b, of all bytes that Decode takes: no others mean the same steps.
func TestEncodeOfDecode(t *testing.T) {
	draw := drawn(4)
	taken := 0
	see := func(b []byte) {
		if l, e, _ := pack.Decode(b); e == api.OK {
			encodes(t, b, l...)
			taken++
		}
	}
	for range 20000 {
		see(draw.spoilt(packed(t, draw.steps())))
	}
	for _, b := range lists(6, 0, 1, 2, 97, 100, 128, 255) {
		see(b)
	}
	if taken < 5000 {
		t.Errorf("only %d were taken", taken)
	}
}

// P10.6: Open of Encode(l) is l.
func TestOpenOfEncode(t *testing.T) {
	each(5, func(l []api.Step) { opens(t, packed(t, l), l...) })
}

// P10.6: and so is Open of drat.Write(l).
func TestOpenOfWrite(t *testing.T) {
	each(6, func(l []api.Step) {
		s, e := drat.Write(l)
		if e != api.OK {
			t.Fatalf("Write(%v): error %d", l, e)
		}
		opens(t, []byte(s), l...)
	})
}

// P10.6: no text of a proof has a byte 0, and every packed step has one, so no bytes are both, but of no steps, where both are empty.
func TestTextsAreNotBytes(t *testing.T) {
	for _, b := range lists(6, 'd', ' ', '0', '\n', 'c', 0, 'a') {
		_, asText, _ := drat.Read(string(b))
		_, asBytes, _ := pack.Decode(b)
		if asText == api.OK && asBytes == api.OK && len(b) > 0 {
			t.Errorf("%q is a text and packed bytes", b)
		}
		if has := bytes.IndexByte(b, 0) >= 0; asText == api.OK && has || asBytes == api.OK && !has && len(b) > 0 {
			t.Errorf("%q: as a text %d, as bytes %d", b, asText, asBytes)
		}
	}
	none, e := drat.Write(nil)
	if b := packed(t, nil); none != "" || e != api.OK || len(b) != 0 {
		t.Errorf("of no steps: %q, %d, and %v", none, e, b)
	}
}

// P10.3: the bytes of two lists, one behind the other, are those of the one list.
func TestBytesBehindOneAnother(t *testing.T) {
	draw := drawn(7)
	for range 3000 {
		a, b := draw.steps(), draw.steps()
		both := slices.Concat(a, b)
		encodes(t, slices.Concat(packed(t, a), packed(t, b)), both...)
	}
}
