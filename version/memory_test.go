package version_test

import (
	"slices"
	"strings"
	"sync"
	"testing"
	"unsafe"

	"depot/api"
	"depot/version"
)

// whole: the list with all the room behind its end.
func whole[E any](list []E) []E { return list[:cap(list)] }

// some has blocks in each of its three lists, and some are left out.
const some = "03:1.2a-00:5~-0rc1"

func someKey() [][]api.Block {
	return [][]api.Block{row("", "3"), row("", "1", ".", "2", "a-", "0", ":", "5", "~", "0"), row("", "0", "rc", "1")}
}

// spoil writes all over a list and the room behind its end, and lets it grow.
func spoil(l []api.Block) {
	for k := range whole(l) {
		whole(l)[k] = api.Block{Text: "spoilt", Number: "spoilt"}
	}
	for range 20 {
		l = append(l, api.Block{Text: "grown"})
	}
}

// Memory: what is handed in is only read, nor are the places behind it written; of what is refused, too.
func TestArgumentsStay(t *testing.T) {
	for _, l := range [][]string{nil, {"1"}, {"2", "1", "01", "2.0"}, {"1", "x", "3"}, {"0:1", "9", "1:0", ""}} {
		room := append(slices.Clone(l), "7", "x", "8")
		was := slices.Clone(room)
		version.Newest(room[:len(l)])
		if !slices.Equal(room, was) {
			t.Errorf("Newest has written into what came in: %q, was %q", room, was)
		}
	}
}

// Memory: nobody remembers what came in: written over, it changes no later answer.
func TestArgumentsAreForgotten(t *testing.T) {
	l := []string{"1", "3", "2"}
	newest(t, 1, l...)
	l[0] = "4"
	newest(t, 0, l...)
	l[2] = "x"
	newestRefuses(t, api.ErrVersion, l...)
	newest(t, 1, "1", "3", "2")
}

// Memory: what Key answers is the caller's, with the room behind its ends; the next call answers the same.
func TestAnswersAreTheCallers(t *testing.T) {
	one, _ := version.Key(some)
	other, _ := version.Key(some)
	for _, l := range one {
		spoil(l)
	}
	for k := range whole(one) {
		whole(one)[k] = row("spoilt", "1")
	}
	if !equalKeys(other, someKey()) {
		t.Errorf("another answer spoilt: %q", other)
	}
	if again, e := version.Key(some); !equalKeys(again, someKey()) || e != api.OK {
		t.Errorf("Key(%q) = %q, %d", some, again, e)
	}
}

// Memory: no two lists of one answer share anything, nor the room behind their ends.
func TestListsAreApart(t *testing.T) {
	for _, s := range []string{some, "1", "0", "0:0-0", "1:0-1", "1:1-0", "0-a"} {
		want, _ := version.Key(s)
		for k := range want {
			got, _ := version.Key(s)
			spoil(got[k])
			got[k] = want[k]
			if !equalKeys(got, want) {
				t.Errorf("the list %d of %q spoilt: %q", k, s, got)
			}
		}
	}
}

// Memory: no piece of an answer lies in the text that came in, which it would hold on to.
func TestPiecesAreNew(t *testing.T) {
	s := strings.Repeat("7", 40) + ":" + strings.Repeat("1.a", 40) + "-" + strings.Repeat("b2", 40)
	at := uintptr(unsafe.Pointer(unsafe.StringData(s)))
	apart := func(piece string) {
		t.Helper()
		if p := uintptr(unsafe.Pointer(unsafe.StringData(piece))); piece != "" && at <= p && p < at+uintptr(len(s)) {
			t.Errorf("%q lies in the text that came in", piece)
		}
	}
	epoch, upstream, revision, _ := version.Cut(s)
	apart(epoch)
	apart(upstream)
	apart(revision)
	key, _ := version.Key(s)
	for _, b := range slices.Concat(key...) {
		apart(b.Text)
		apart(b.Number)
	}
	canon, _ := version.Canon(s)
	apart(canon)
}

// answersAgain: each call answers what it always does; said once, if it doesn't.
func answersAgain(t *testing.T) {
	t.Helper()
	if t.Failed() {
		return
	}
	key := someKey()
	keys(t, some, key[0], key[1], key[2], "3:1.2a-0:5~0-0rc1")
	cuts(t, some, "03", "1.2a-00:5~", "0rc1")
	compares(t, some, "3:1.2a-0:5~-0rc1", 0)
	compares(t, some, "3:1.2a-0:5-0rc1", -1)
	newest(t, 1, "3:1.2a-0:5~-0", some, "2:9", "3:1.2a-0:5~0-0rc1", some)
	newestRefuses(t, api.ErrRange)
	illegal(t, "1_2")
}

// Sameness: the same calls answer the same, refusals too.
func TestSameAgain(t *testing.T) {
	for range 20 {
		answersAgain(t)
	}
}

// Sameness: so they do while others call.
func TestSameBesideOneAnother(t *testing.T) {
	var group sync.WaitGroup
	for range 8 {
		group.Go(func() {
			for range 200 {
				answersAgain(t)
			}
		})
	}
	group.Wait()
}
