package arena

import "depot/api"

// A clause's own word, its head, tells how many literals it has and whether it is learnt; of a clause that was dropped it stands there negated. It is beyond all literals, so that a word tells by itself whether a clause begins with it.

// bare is the least head: that of the empty clause which isn't learnt.
const bare = api.MaxVar + 1

// head: the head of a live clause with so many literals.
func head(n int, learnt bool) int {
	if learnt {
		return bare + 2*n + 1
	}
	return bare + 2*n
}

// size: how many literals a clause has by its head, dropped or not.
func size(h int) int {
	return (max(h, -h) - bare) / 2
}

// marked: is it the head of a live clause that is learnt?
func marked(h int) bool {
	return (h-bare)%2 == 1
}
