package version

import (
	"strings"

	"depot/api"
)

// nought is the number 0 in tens.
const nought = "0"

// first: the first block of a part, and what is left behind it. Of nothing it is the block with which a part that has fewer blocks goes on.
func first(part string) (b api.Block, left string) {
	from := span(part, noDigit)
	to := from + span(part[from:], digit)
	return api.Block{Text: part[:from], Number: inTens(part[from:to])}, part[to:]
}

// inTens: the number that the digits are worth; without digits it is 0.
func inTens(digits string) string {
	number := strings.TrimLeft(digits, nought)
	if number == "" {
		return nought
	}
	return number
}

// blocks: the blocks of a part, but those at its end that say no more than that it has ended.
func blocks(part string) []api.Block {
	var out []api.Block
	for part != "" {
		var b api.Block
		b, part = first(part)
		out = append(out, b)
	}
	for n := len(out); n > 0 && out[n-1] == (api.Block{Number: nought}); n-- {
		out = out[:n-1]
	}
	return out
}

// written: the blocks one behind the other, as the shortest part that has them.
func written(l []api.Block) string {
	if len(l) == 0 {
		return nought
	}
	var out strings.Builder
	for _, b := range l {
		out.WriteString(b.Text)
		out.WriteString(b.Number)
	}
	return out.String()
}
