package dimacs

import "strings"

// blanks are the bytes that part words.
const blanks = " \t"

// beyond stands for every number that is greater than what any place of a text allows.
const beyond = maxCount + 1

// text is a text that is read word by word.
type text struct {
	left string // the lines that are not yet begun
	rest string // what is left of the line that is read
	line int    // its number
}

// next goes to the next line that isn't idle; false, if there is none: line is then that of the line behind the last one.
func (t *text) next() bool {
	for t.left != "" {
		t.rest, t.left, _ = strings.Cut(t.left, "\n")
		t.line++
		if !idle(t.rest) {
			return true
		}
	}
	t.line++
	return false
}

// word takes the line's next word; "", if there is none.
func (t *text) word() string {
	rest := strings.TrimLeft(t.rest, blanks)
	end := strings.IndexAny(rest, blanks)
	if end < 0 {
		end = len(rest)
	}
	t.rest = rest[end:]
	return rest[:end]
}

// idle: does the line say nothing: a remark, or no word?
func idle(line string) bool {
	return strings.HasPrefix(line, "c") || strings.Trim(line, blanks) == ""
}

// number: the number in tens that the word is; false, if it is none. One that is too great for any place, however many digits it has, is beyond or its opposite.
func number(word string) (int, bool) {
	n, sign := 0, 1
	switch {
	case strings.HasPrefix(word, "-"):
		sign, word = -1, word[1:]
		fallthrough
	case word != "0":
		// 0 stands alone: no other number begins with it, nor does a minus stand ahead of it.
		if word == "" || word[0] == '0' {
			return 0, false
		}
		for k := range len(word) {
			if word[k] < '0' || word[k] > '9' {
				return 0, false
			}
			n = min(10*n+int(word[k]-'0'), beyond)
		}
	}
	return sign * n, true
}
