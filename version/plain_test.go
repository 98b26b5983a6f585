package version_test

import (
	"math/big"
	"regexp"
	"slices"
	"strings"

	"depot/api"
)

// What follows here is a second reading of versions by the document's words, and with no thought of time or room.

const (
	letters = "abcdefghijklmnopqrstuvwxyzABCDEFGHIJKLMNOPQRSTUVWXYZ"
	digits  = "0123456789"
)

var aBlock = regexp.MustCompile(`([^0-9]*)([0-9]*)`)

// only: are all bytes of s among these?
func only(s, these string) bool {
	for k := range len(s) {
		if strings.IndexByte(these, s[k]) < 0 {
			return false
		}
	}
	return true
}

// plainCut: the three pieces of a version; false, if the text is none.
func plainCut(s string) (pieces [3]string, ok bool) {
	upstreamHas := letters + digits + ".+-~"
	rest := s
	if k := strings.Index(s, ":"); k >= 0 {
		pieces[0], rest = s[:k], s[k+1:]
		if pieces[0] == "" || !only(pieces[0], digits) {
			return [3]string{}, false
		}
		upstreamHas += ":"
	}
	pieces[1] = rest
	if k := strings.LastIndex(rest, "-"); k >= 0 {
		pieces[1], pieces[2] = rest[:k], rest[k+1:]
		if pieces[2] == "" || !only(pieces[2], letters+digits+"+.~") {
			return [3]string{}, false
		}
	}
	if pieces[1] == "" || !only(pieces[1][:1], digits) || !only(pieces[1], upstreamHas) {
		return [3]string{}, false
	}
	return pieces, true
}

// plainBlock is a block, and what its number is worth.
type plainBlock struct {
	text   string
	number *big.Int
}

// plainBlocks: all blocks of a part.
func plainBlocks(part string) []plainBlock {
	var out []plainBlock
	for part != "" {
		found := aBlock.FindStringSubmatch(part)
		worth := new(big.Int)
		if found[2] != "" {
			worth.SetString(found[2], 10)
		}
		out = append(out, plainBlock{found[1], worth})
		part = part[len(found[0]):]
	}
	return out
}

// plainText: the order of texts, in which each byte has a letter of its own and the end has one too.
func plainText(a, b string) int {
	ranked := "~" + " " + "ABCDEFGHIJKLMNOPQRSTUVWXYZ" + "abcdefghijklmnopqrstuvwxyz" + "+-.:"
	n := max(len(a), len(b))
	a, b = a+strings.Repeat(" ", n-len(a)), b+strings.Repeat(" ", n-len(b))
	for k := range n {
		x, y := strings.IndexByte(ranked, a[k]), strings.IndexByte(ranked, b[k])
		switch {
		case x < y:
			return -1
		case x > y:
			return 1
		}
	}
	return 0
}

// plainPart: the order of parts by their blocks.
func plainPart(a, b []plainBlock) int {
	for k := range max(len(a), len(b)) {
		x, y := plainBlock{"", new(big.Int)}, plainBlock{"", new(big.Int)}
		if k < len(a) {
			x = a[k]
		}
		if k < len(b) {
			y = b[k]
		}
		if c := plainText(x.text, y.text); c != 0 {
			return c
		}
		if c := x.number.Cmp(y.number); c != 0 {
			return c
		}
	}
	return 0
}

// plainCmp: the order of versions; false, if one of the texts is none.
func plainCmp(a, b string) (int, bool) {
	p, okP := plainCut(a)
	q, okQ := plainCut(b)
	if !okP || !okQ {
		return 0, false
	}
	for k := range p {
		if c := plainPart(plainBlocks(p[k]), plainBlocks(q[k])); c != 0 {
			return c, true
		}
	}
	return 0, true
}

// plainKey: the key; nil, if the text is no version.
func plainKey(s string) [][]api.Block {
	pieces, ok := plainCut(s)
	if !ok {
		return nil
	}
	out := make([][]api.Block, 3)
	for k, part := range pieces {
		for _, b := range plainBlocks(part) {
			out[k] = append(out[k], api.Block{Text: b.text, Number: b.number.String()})
		}
		for len(out[k]) > 0 && out[k][len(out[k])-1] == (api.Block{Text: "", Number: "0"}) {
			out[k] = out[k][:len(out[k])-1]
		}
	}
	return out
}

// plainCanon: the text that is made of a key.
func plainCanon(key [][]api.Block) string {
	var text [3]string
	has := func(k int, what string) bool {
		return slices.ContainsFunc(key[k], func(b api.Block) bool { return strings.Contains(b.Text, what) })
	}
	for k, list := range key {
		for _, b := range list {
			text[k] += b.Text + b.Number
		}
		if len(list) == 0 {
			text[k] = "0"
		}
	}
	out := text[1]
	if len(key[0]) > 0 || has(1, ":") {
		out = text[0] + ":" + out
	}
	if len(key[2]) > 0 || has(1, "-") {
		out += "-" + text[2]
	}
	return out
}

// plainNewest: the place of the first one that is below no other.
func plainNewest(l []string) (int, api.Errno) {
	if len(l) == 0 {
		return 0, api.ErrRange
	}
	for _, s := range l {
		if _, ok := plainCut(s); !ok {
			return 0, api.ErrVersion
		}
	}
	return slices.IndexFunc(l, func(s string) bool {
		return !slices.ContainsFunc(l, func(other string) bool {
			c, _ := plainCmp(s, other)
			return c < 0
		})
	}), api.OK
}
