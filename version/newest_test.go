package version_test

import (
	"slices"
	"testing"

	"depot/api"
	"depot/version"
)

// P20.5: the chapter's examples.
func TestNewestExamples(t *testing.T) {
	newest(t, 2, "1", "2", "1:0", "2-0")
	newest(t, 0, "1", "01", "0")
	newestRefuses(t, api.ErrRange)
	newestRefuses(t, api.ErrVersion, "1", "x")
}

// newestRefuses: Newest of the list refuses.
func newestRefuses(t *testing.T, e api.Errno, l ...string) {
	t.Helper()
	if at, got := version.Newest(l); at != 0 || got != e {
		t.Errorf("Newest(%q) = %d, %d, not 0, %d", l, at, got, e)
	}
}

// P20.5: no texts, nil or not, and one text.
func TestNewestOfFew(t *testing.T) {
	newestRefuses(t, api.ErrRange, []string{}...)
	newest(t, 0, "1")
	newest(t, 0, "0")
	newest(t, 0, "0~~")
	newest(t, 0, "0:0-~")
	newestRefuses(t, api.ErrVersion, "")
	newestRefuses(t, api.ErrVersion, "x")
}

// P20.5: of several that are as great the first, wherever they stand.
func TestNewestOfSeveral(t *testing.T) {
	same := []string{"1.0", "1.", "01.0", "0:1.0", "1.0-0", "00:1.-00"}
	for k := range same {
		l := slices.Concat(same[k:], same[:k])
		newest(t, 0, l...)
		newest(t, 1, append([]string{"0.9"}, l...)...)
		newest(t, 2, append([]string{"1.0~", "1.0-~"}, l...)...)
		newest(t, len(l), append(l, "1.0+", "1.0+0", "1.0")...)
	}
	newest(t, 1, "1", "3", "2", "3", "03", "1")
	newest(t, 3, "0~", "0~", "0~", "0", "0", "0~")
}

// P20.5: a text that isn't legal is told at any place, whatever stands around it.
func TestNewestOfIllegal(t *testing.T) {
	for _, wrong := range []string{"", "x", "1-", "1:", ":1", "1_2", "1\xff"} {
		for n := range 6 {
			for at := range n + 1 {
				l := slices.Insert([]string{"2", "9", "1", "9:0", "3"}[:n:n], at, wrong)
				newestRefuses(t, api.ErrVersion, l...)
				newestRefuses(t, api.ErrVersion, append(l, wrong)...)
			}
		}
	}
}

// P20.5: of drawn lists the answer is that of the document's words.
func TestNewestAsWords(t *testing.T) {
	draw := drawn(3)
	few := someVersions(3, 0)
	for range 5000 {
		var l []string
		for range draw.Intn(8) {
			switch draw.Intn(20) {
			case 0:
				l = append(l, draw.spoilt(draw.version()))
			case 1, 2, 3:
				l = append(l, draw.version())
			default:
				l = append(l, draw.pick(few...))
			}
		}
		at, e := plainNewest(l)
		if e != api.OK {
			newestRefuses(t, e, l...)
		} else {
			newest(t, at, l...)
		}
	}
}
