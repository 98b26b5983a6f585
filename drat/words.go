package drat

// words hands the words of the lines that aren't idle to take, one behind the other, until it answers false or a remark holds a byte that it may not. It answers the line where that was, or else the line behind the last one and true.
func words(s string, take func(word string) bool) (line int, whole bool) {
	line = 1
	lineAt, wordAt := 0, 0
	remark := false
	for at, r := range s {
		switch {
		case remark && r != '\n':
			if !plain(r) {
				return line, false
			}
		case at == lineAt && r == 'c':
			remark = true
		case r == ' ' || r == '\t' || r == '\n':
			if !remark && wordAt < at && !take(s[wordAt:at]) {
				return line, false
			}
			wordAt = at + 1
			if r == '\n' {
				line, lineAt, remark = line+1, at+1, false
			}
		}
	}
	if !remark && wordAt < len(s) && !take(s[wordAt:]) {
		return line, false
	}
	if lineAt < len(s) {
		line++
	}
	return line, true
}

// plain: may it stand in a remark? What is no text comes as a rune that may not.
func plain(r rune) bool {
	return r == '\t' || ' ' <= r && r <= '~'
}
