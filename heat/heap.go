package heat

import (
	"cmp"
	"slices"
)

// heap holds some of the numbers from 1 to n. Each of them has a key, whether it is held or not; of those that are held the one with the greatest key is at hand, and of several such ones the least.
type heap[K cmp.Ordered] struct {
	keys   []K     // the number v's at v
	places []int32 // the number v's place in the row at v; 0: it isn't held
	row    []int32 // from place 1 on, so that place 0 is nowhere; none goes ahead of the one at half its place
}

// full: a heap that holds all numbers from 1 to n, their keys being zero.
func full[K cmp.Ordered](n int) heap[K] {
	h := heap[K]{
		keys:   make([]K, n+1),
		places: make([]int32, n+1),
		row:    make([]int32, n+1),
	}
	for v := range h.row {
		h.lay(int32(v), int32(v))
	}
	return h
}

// has: is it one of the numbers from 1 to n?
func (h *heap[K]) has(v int) bool { return 1 <= v && v < len(h.keys) }

// holds: is the number, which is one from 1 to n, held?
func (h *heap[K]) holds(v int) bool { return h.places[v] != 0 }

// ahead: does the number a go ahead of b?
func (h *heap[K]) ahead(a, b int32) bool {
	if h.keys[a] != h.keys[b] {
		return h.keys[a] > h.keys[b]
	}
	return a < b
}

// put holds a number that isn't held.
func (h *heap[K]) put(v int) {
	h.row = append(h.row, 0)
	h.lay(int32(v), int32(len(h.row)-1))
	h.rise(int32(v))
}

// take: the number ahead of all others, which is held no more; false: none is held.
func (h *heap[K]) take() (int, bool) {
	end := len(h.row) - 1
	if end == 0 {
		return 0, false
	}
	first, last := h.row[1], h.row[end]
	h.row = h.row[:end]
	h.places[first] = 0
	if last != first {
		h.lay(last, 1)
		h.sink(last)
	}
	return int(first), true
}

// raise gives a number a key that isn't less than the one it has.
func (h *heap[K]) raise(v int, key K) {
	h.keys[v] = key
	if h.holds(v) {
		h.rise(int32(v))
	}
}

// change gives each number another key, by the one that it has.
func (h *heap[K]) change(to func(K) K) {
	for v, key := range h.keys {
		h.keys[v] = to(key)
	}
	for place := (len(h.row) - 1) / 2; place > 0; place-- {
		h.sink(h.row[place])
	}
}

// order: the numbers that are held, each ahead of the next.
func (h *heap[K]) order() []int {
	row := slices.Clone(h.row[1:])
	slices.SortFunc(row, func(a, b int32) int {
		switch {
		case a == b:
			return 0
		case h.ahead(a, b):
			return -1
		}
		return 1
	})
	out := make([]int, 0, len(row))
	for _, v := range row {
		out = append(out, int(v))
	}
	return out
}

// lay puts a number at a place of the row.
func (h *heap[K]) lay(v, place int32) {
	h.row[place] = v
	h.places[v] = place
}

// rise leads a number that is held up to where none above it has to be behind it.
func (h *heap[K]) rise(v int32) {
	place := h.places[v]
	for place > 1 && h.ahead(v, h.row[place/2]) {
		h.lay(h.row[place/2], place)
		place /= 2
	}
	h.lay(v, place)
}

// sink leads a number that is held down to where none below it has to be ahead of it.
func (h *heap[K]) sink(v int32) {
	place, end := h.places[v], int32(len(h.row))
	for below := 2 * place; below < end; below = 2 * place {
		if below+1 < end && h.ahead(h.row[below+1], h.row[below]) {
			below++
		}
		if !h.ahead(h.row[below], v) {
			break
		}
		h.lay(h.row[below], place)
		place = below
	}
	h.lay(v, place)
}
