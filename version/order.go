package version

import "cmp"

// How the places of a block's text rank. A letter ranks by its byte.
const (
	tilde = -1
	end   = 0   // behind the text's last byte
	lift  = 'z' // by so much any other byte ranks higher than by itself, and so above every letter
)

// order: -1, 0 or 1, by the order of versions.
func order(a, b parts) int {
	if c := orderParts(a.epoch, b.epoch); c != 0 {
		return c
	}
	if c := orderParts(a.upstream, b.upstream); c != 0 {
		return c
	}
	return orderParts(a.revision, b.revision)
}

// orderParts: the same of two parts; of epochs too, whose only block is a number.
func orderParts(a, b string) int {
	for a != "" || b != "" {
		x, leftOfA := first(a)
		y, leftOfB := first(b)
		if c := orderTexts(x.Text, y.Text); c != 0 {
			return c
		}
		if c := orderNumbers(x.Number, y.Number); c != 0 {
			return c
		}
		a, b = leftOfA, leftOfB
	}
	return 0
}

// orderTexts: the same of two blocks' texts.
func orderTexts(a, b string) int {
	for at, r := range a {
		if c := cmp.Compare(rank(r), rankAt(b, at)); c != 0 {
			return c
		}
	}
	return cmp.Compare(end, rankAt(b, len(a)))
}

// rankAt: how the place ranks at which a text has a byte, or its end.
func rankAt(s string, at int) rune {
	if at == len(s) {
		return end
	}
	return rank(rune(s[at]))
}

// rank: how a byte of a text ranks, above its end or below it.
func rank(r rune) rune {
	switch {
	case r == '~':
		return tilde
	case !letter(r):
		r += lift
		fallthrough
	default:
		return r
	}
}

// orderNumbers: the same of two numbers in tens, however long they are.
func orderNumbers(a, b string) int {
	if c := cmp.Compare(len(a), len(b)); c != 0 {
		return c
	}
	return cmp.Compare(a, b)
}
