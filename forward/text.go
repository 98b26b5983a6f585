package forward

import (
	"depot/lits"
)

// width is how many bytes of a text stand for a literal: as many as the greatest Index needs.
const width = 3

// textOf: the text of a tidy clause: its literals' Indexes, the highest byte of each first. So the order of texts, byte by byte, is the order of the clauses, literal by literal.
func textOf(c []int) string {
	text := make([]byte, 0, width*len(c))
	for _, l := range c {
		i := lits.Index(l)
		text = append(text, byte(i>>16), byte(i>>8), byte(i))
	}
	return string(text)
}

// clauseOf: the clause of a text.
func clauseOf(text string) []int {
	c := make([]int, 0, len(text)/width)
	for k := 0; k < len(text); k += width {
		c = append(c, lits.At(int(text[k])<<16|int(text[k+1])<<8|int(text[k+2])))
	}
	return c
}
