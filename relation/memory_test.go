package relation_test

import (
	"slices"
	"strings"
	"sync"
	"testing"
	"unsafe"

	"depot/api"
	"depot/relation"
)

// whole: the list with all the room behind its end.
func whole[E any](list []E) []E { return list[:cap(list)] }

// some has lists of several lengths.
const some = "aa(= 01)|bb|cc (<<1:2-3), dd\n,ee |ff(>=1.),gg | hh | ii | jj(>> 1~),kk (<= 2)"

func someLists() [][]api.Rel {
	return [][]api.Rel{{rel("aa", "=", "01"), rel("bb"), rel("cc", "<<", "1:2-3")}, {rel("dd")}, {rel("ee"), rel("ff", ">=", "1.")}, {rel("gg"), rel("hh"), rel("ii"), rel("jj", ">>", "1~")}, {rel("kk", "<=", "2")}}
}

// someText: Write of someLists.
const someText = "aa (= 01) | bb | cc (<< 1:2-3), dd, ee | ff (>= 1.), gg | hh | ii | jj (>> 1~), kk (<= 2)"

// plain is a list without bars, and its relations.
const plain = "aa(= 01),bb , cc (<<1:2-3)"

func plainList() []api.Rel {
	return list(rel("aa", "=", "01"), rel("bb"), rel("cc", "<<", "1:2-3"))
}

// roomy: the lists, with room behind their ends and relations and lists in it.
func roomy(l [][]api.Rel) [][]api.Rel {
	out := cloned(l)
	for k := range out {
		out[k] = append(out[k], rel("behind"), api.Rel{Op: 9})[:len(l[k])]
	}
	return append(out, list(rel("last")), nil)[:len(l)]
}

// spoil writes all over a list and the room behind its end, and lets it grow.
func spoil(l []api.Rel) {
	for k := range whole(l) {
		whole(l)[k] = rel("spoilt")
	}
	for range 20 {
		l = append(l, rel("grown"))
	}
}

// Memory: what is handed in is only read, nor are the places behind it written; of what is refused, too.
func TestArgumentsStay(t *testing.T) {
	for _, l := range [][][]api.Rel{nil, someLists(), {{}}, lists(plainList()), {{rel("aa")}, {api.Rel{Name: "a"}}}, {{rel("aa"), api.Rel{Op: 3}}, nil}} {
		in, was := roomy(l), roomy(l)
		relation.Write(in)
		for k := range in {
			relation.WriteList(in[k])
		}
		if !equal(in[:len(l)+2], was[:len(l)+2]) {
			t.Errorf("written into what came in: %v, was %v", in, was)
		}
		for k := range in {
			if got, want := in[k][:len(l[k])+2], was[k][:len(l[k])+2]; !slices.Equal(got, want) {
				t.Errorf("written behind a list that came in: %v, was %v", got, want)
			}
		}
	}
}

// Memory: nobody remembers what came in: written over, it changes no later answer.
func TestArgumentsAreForgotten(t *testing.T) {
	l := someLists()
	writes(t, someText, l...)
	l[0][1].Name = "bx"
	writes(t, strings.Replace(someText, "bb", "bx", 1), l...)
	l[3] = nil
	unwritten(t, l...)
	writes(t, someText, someLists()...)
	one := plainList()
	for range 2 {
		if s, e := relation.WriteList(one); e != api.OK || s != "aa (= 01), "+one[1].Name+", cc (<< 1:2-3)" {
			t.Errorf("WriteList(%v) = %q, %d", one, s, e)
		}
		one[1].Name = "other"
	}
}

// Memory: what is answered is the caller's, with the room behind its ends; the next call answers the same.
func TestAnswersAreTheCallers(t *testing.T) {
	one, _, _ := relation.Read(some)
	other, _, _ := relation.Read(some)
	for k := range one {
		spoil(one[k])
	}
	for k := range whole(one) {
		whole(one)[k] = list(rel("spoilt"))
	}
	if !equal(other, someLists()) {
		t.Errorf("another answer spoilt: %v", other)
	}
	reads(t, some, someLists()...)
	first, _, _ := relation.ReadList(plain)
	second, _, _ := relation.ReadList(plain)
	spoil(first)
	if !slices.Equal(second, plainList()) {
		t.Errorf("another answer spoilt: %v", second)
	}
	reads(t, plain, lists(plainList())...)
}

// Memory: no two lists of one answer share anything, nor the room behind their ends.
func TestListsAreApart(t *testing.T) {
	for _, s := range []string{some, plain, "aa,aa,aa", repeated(40, "aa | bb | cc,") + "dd", repeated(9, "aa|bb|cc|dd|ee,ff,") + "gg"} {
		want, _, _ := relation.Read(s)
		want = cloned(want)
		for k := range want {
			got, _, _ := relation.Read(s)
			spoil(got[k])
			got[k] = want[k]
			if !equal(got, want) {
				t.Errorf("the list %d of %q spoilt: %v", k, s, got)
			}
		}
	}
}

// Memory: no piece of an answer lies in what came in, which it would hold on to.
func TestPiecesAreNew(t *testing.T) {
	name, v := repeated(40, "ab"), repeated(40, "1.")
	within := func(piece, s string) bool {
		at, p := uintptr(unsafe.Pointer(unsafe.StringData(s))), uintptr(unsafe.Pointer(unsafe.StringData(piece)))
		return piece != "" && at <= p && p < at+uintptr(len(s))
	}
	s := name + " (= " + v + ")," + name
	l, _, _ := relation.Read(s)
	flat, _, _ := relation.ReadList(s)
	for _, r := range slices.Concat(firsts(l), flat) {
		if within(r.Name, s) || within(r.Version, s) {
			t.Errorf("%v: in the text that came in", r)
		}
	}
	one := rel(name)
	for _, l := range [][]api.Rel{{one}, {one, one}} {
		first, _ := relation.Write([][]api.Rel{l})
		second, _ := relation.WriteList(l)
		if within(first, name) || within(second, name) {
			t.Error("a text lies in what came in")
		}
	}
}

// Memory: a list without elements is as good as nil, coming in.
func TestEmptyIsNil(t *testing.T) {
	for _, none := range [][]api.Rel{nil, {}, make([]api.Rel, 0, 4)} {
		if s, e := relation.WriteList(none); s != "" || e != api.OK {
			t.Errorf("WriteList of none = %q, %d", s, e)
		}
		unwritten(t, none)
	}
}

// answersAgain: each call answers what it always does; said once, if it doesn't.
func answersAgain(t *testing.T) {
	t.Helper()
	if t.Failed() {
		return
	}
	reads(t, some, someLists()...)
	reads(t, plain, lists(plainList())...)
	writes(t, someText, someLists()...)
	readRefuses(t, some+"|", api.ErrRel, len(some)+1)
	listRefuses(t, some, api.ErrRel, 8)
	refuses(t, plain+",A", api.ErrName, len(plain)+1)
	refuses(t, plain+",dd(>>x)", api.ErrVersion, len(plain)+6)
	unwritten(t, append(someLists(), nil)...)
	formedAsWords(t, rel("aa", ">=", "1"))
	formedAsWords(t, api.Rel{Name: "aa", Op: 6, Version: "1"})
	holds(t, rel("aa", "<=", "1.0"), "1.", true)
	holds(t, rel("aa", "<<", "1.0"), "1.", false)
}

// Sameness: the same calls answer the same, refusals too.
func TestSameAgain(t *testing.T) {
	for range 20 {
		answersAgain(t)
	}
}

// Sameness: so they do while others call.
func TestSameBesideOneAnother(t *testing.T) {
	var group sync.WaitGroup
	for range 8 {
		group.Go(func() {
			for range 200 {
				answersAgain(t)
			}
		})
	}
	group.Wait()
}
