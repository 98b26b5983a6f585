package pack_test

import (
	"bytes"
	"slices"
	"sync"
	"testing"

	"depot/api"
	"depot/pack"
)

// behind: the list at the head of a longer memory, so that what is written behind its end can be seen.
func behind[E any](list []E, further ...E) []E {
	return append(slices.Clone(list), further...)[:len(list)]
}

// whole: the list with all the room behind its end.
func whole[E any](list []E) []E { return list[:cap(list)] }

// roomy: the steps in memory of their own, with something behind each end.
func roomy(l ...api.Step) []api.Step {
	var out []api.Step
	for _, step := range l {
		out = append(out, api.Step{Drop: step.Drop, Lits: behind(step.Lits, 77, -78, 79)})
	}
	return behind(out, add(5), drop())
}

// seen: all that can be seen of steps, the places behind their ends too, copied.
func seen(l []api.Step) []api.Step {
	var out []api.Step
	for _, step := range whole(l) {
		out = append(out, api.Step{Drop: step.Drop, Lits: slices.Clone(whole(step.Lits))})
	}
	return out
}

// spoil writes all over a list and the room behind its end, and lets it grow.
func spoil[E any](l []E, with E) {
	for k := range whole(l) {
		whole(l)[k] = with
	}
	for range 20 {
		l = append(l, with)
	}
}

// spoilAll writes all over steps and the room behind all ends.
func spoilAll(l []api.Step) {
	for _, step := range whole(l) {
		spoil(step.Lits, 999)
	}
	spoil(l, drop(777))
}

// some steps, their bytes, and their text.
var (
	some      = []byte{97, 2, 5, 0, 100, 6, 0, 97, 0, 100, 128, 1, 128, 1, 0}
	someText  = []byte("1 -2 0\nd 3 0\n0\nd 64 64 0\n")
	someFault = []byte{97, 2, 5, 0, 100, 1, 0}
)

func someSteps() []api.Step { return []api.Step{add(1, -2), drop(3), add(), drop(64, 64)} }

// Memory: the steps that come in are only read, nor are the places behind them written; of what is refused, too.
func TestStepsStay(t *testing.T) {
	for _, l := range [][]api.Step{roomy(), roomy(someSteps()...), roomy(add(), drop()), roomy(add(1, -2), add(3, 0)), roomy(drop(api.MaxVar+1), add(1))} {
		was := seen(l)
		pack.Encode(l)
		if !equal(seen(l), was) {
			t.Errorf("Encode has written into what came in: %v, was %v", seen(l), was)
		}
	}
}

// Memory: so are the bytes.
func TestBytesStay(t *testing.T) {
	for _, from := range [][]byte{nil, some, someText, someFault, {97}, {97, 128}, {128}, {128, 0}, {98}, {'d', ' ', '1'}, times(9, 255, 1), times(9, 255, 2)} {
		b := behind(from, 128, 1, 0, 97, 0)
		was := slices.Clone(whole(b))
		pack.Take(b)
		pack.Decode(b)
		pack.Open(b)
		if !bytes.Equal(whole(b), was) {
			t.Errorf("what came in is %v, was %v", whole(b), was)
		}
	}
}

// Memory: nobody remembers what came in: written over, it changes neither the answer nor a later one.
func TestArgumentsAreForgotten(t *testing.T) {
	l := roomy(someSteps()...)
	b, _ := pack.Encode(l)
	spoilAll(l)
	if !bytes.Equal(b, some) {
		t.Errorf("Encode, what came in spoilt: %v", b)
	}
	encodes(t, some, someSteps()...)
	for _, from := range [][]byte{some, someText} {
		b := bytes.Clone(from)
		opened, _, _ := pack.Open(b)
		decoded, e, _ := pack.Decode(b)
		spoil(b, 100)
		if !equal(opened, someSteps()) || e == api.OK && !equal(decoded, someSteps()) {
			t.Errorf("what came in spoilt: %v and %v", opened, decoded)
		}
		opens(t, from, someSteps()...)
	}
	decodes(t, some, someSteps()...)
}

// Memory: what is answered is the caller's, with the room behind its ends; no other answer changes by it.
func TestAnswersAreTheCallers(t *testing.T) {
	for _, read := range []func() ([]api.Step, api.Errno, int){
		func() ([]api.Step, api.Errno, int) { return pack.Decode(some) },
		func() ([]api.Step, api.Errno, int) { return pack.Open(some) },
		func() ([]api.Step, api.Errno, int) { return pack.Open(someText) },
	} {
		first, _, _ := read()
		second, _, _ := read()
		spoilAll(first)
		third, _, _ := read()
		if !equal(second, someSteps()) || !equal(third, someSteps()) {
			t.Errorf("another answer spoilt: %v, %v", second, third)
		}
	}
	first, _ := pack.Encode(someSteps())
	second, _ := pack.Encode(someSteps())
	spoil(first, 99)
	if !bytes.Equal(second, some) {
		t.Errorf("Encode, another answer spoilt: %v", second)
	}
	encodes(t, some, someSteps()...)
	for _, n := range []uint64{0, 127, 128, 1 << 40, 1<<64 - 1} {
		first, second := pack.Number(n), pack.Number(n)
		want := slices.Clone(first)
		spoil(first, 99)
		if !bytes.Equal(second, want) {
			t.Errorf("Number(%d), another answer spoilt: %v", n, second)
		}
		number(t, n, want...)
	}
}

// Memory: what is answered, written into and let grow, changes nothing that came in.
func TestAnswersAreNotArguments(t *testing.T) {
	for _, from := range [][]byte{some, someText} {
		b := behind(from, 97, 0, 97, 0)
		was := slices.Clone(whole(b))
		decoded, _, _ := pack.Decode(b)
		opened, _, _ := pack.Open(b)
		spoilAll(decoded)
		spoilAll(opened)
		if !bytes.Equal(whole(b), was) {
			t.Errorf("what came in is %v, was %v", whole(b), was)
		}
	}
	l := roomy(someSteps()...)
	was := seen(l)
	b, _ := pack.Encode(l)
	spoil(b, 99)
	if !equal(seen(l), was) {
		t.Errorf("what came in is %v, was %v", seen(l), was)
	}
}

// Memory: no two lists of one answer share anything, nor the room behind their ends.
func TestStepsAreApart(t *testing.T) {
	want := []api.Step{add(slices.Repeat([]int{7}, 100)...), drop(), add(1, 2), add(), drop(3), add(4, 5), add(4, 5), add(slices.Repeat([]int{-8}, 9)...)}
	b := packed(t, want)
	for k := range want {
		for _, read := range []func([]byte) ([]api.Step, api.Errno, int){pack.Decode, pack.Open} {
			got, e, _ := read(b)
			if e != api.OK || !equal(got, want) {
				t.Fatalf("the steps are %v, %d", got, e)
			}
			spoil(got[k].Lits, 999)
			got[k] = want[k]
			if !equal(got, want) {
				t.Errorf("the step %d spoilt: %v", k, got)
			}
		}
	}
}

// sameAgain: all calls, their refusals too, answer what they always do.
func sameAgain(t *testing.T) {
	t.Helper()
	number(t, 300, 172, 2)
	takesNone(t, []byte{128, 0}, api.ErrVarint)
	takesNone(t, []byte{128}, api.ErrEnd)
	encodes(t, some, someSteps()...)
	if b, e := pack.Encode([]api.Step{add(1), add(0)}); len(b) != 0 || e != api.ErrShape {
		t.Errorf("Encode = %v, %d", b, e)
	}
	decodes(t, some, someSteps()...)
	refuses(t, someFault, api.ErrLit, 5)
	opens(t, some, someSteps()...)
	opens(t, someText, someSteps()...)
	opensNot(t, someFault, api.ErrLit, 5)
}

// Sameness: the same calls answer the same.
func TestSameAgain(t *testing.T) {
	for range 3 {
		sameAgain(t)
	}
}

// Sameness: so they do while others call.
func TestSameBesideOneAnother(t *testing.T) {
	var group sync.WaitGroup
	for range 8 {
		group.Go(func() {
			for range 50 {
				sameAgain(t)
				got, _, _ := pack.Decode(some)
				spoilAll(got)
				spoil(pack.Number(300), 99)
			}
		})
	}
	group.Wait()
}

// Sameness: a call that refused leaves nothing behind that a later one sees.
func TestRefusalsLeaveNothing(t *testing.T) {
	for _, b := range [][]byte{{100, 2, 4, 1}, {100, 2}, {97, 2, 128, 0}, {97, 2, 0, 7}, {100, 128}} {
		if _, e, _ := pack.Decode(b); e == api.OK {
			t.Fatalf("Decode(%v): OK", b)
		}
		pack.Take(times(9, 255, 2))
		pack.Encode([]api.Step{drop(9, 8), add(7, 0)})
		sameAgain(t)
	}
}
