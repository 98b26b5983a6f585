package under

import "container/heap"

// order gives variables by how often, and how lately, they were in what was learnt. It is this package's own: heat is none of the layers that it calls.
type order struct {
	waiting waiting
	step    float64 // what it counts for to be in what is learnt next
	decay   float64
}

const (
	most   = 1e100  // the step doesn't stay above it
	lessen = 1e-100 // what it and all scores are multiplied by, when it is
)

// orderOf: all of so many variables, none of them warm.
func orderOf(vars int, decay float64) order {
	w := waiting{scores: make([]float64, vars+1), places: make([]int, vars+1)}
	for v := 1; v <= vars; v++ {
		w.Push(v)
	}
	return order{waiting: w, step: 1, decay: decay}
}

// take: the warmest one that is within, which it is no more then; false, if none is.
func (o *order) take() (v int, ok bool) {
	if o.waiting.Len() == 0 {
		return 0, false
	}
	v, ok = heap.Pop(&o.waiting).(int)
	return v, ok
}

// put puts one within that isn't.
func (o *order) put(v int) { heap.Push(&o.waiting, v) }

// within: is it?
func (o *order) within(v int) bool { return o.waiting.places[v] != nowhere }

// warm says that a variable is in what is learnt.
func (o *order) warm(v int) {
	o.waiting.scores[v] += o.step
	if o.within(v) {
		heap.Fix(&o.waiting, o.waiting.places[v]-1)
	}
}

// cool makes all that was so far count for less.
func (o *order) cool() {
	o.step /= o.decay
	if o.step <= most {
		return
	}
	o.step *= lessen
	for v := range o.waiting.scores {
		o.waiting.scores[v] *= lessen
	}
	// Scores that were unlike may be alike now.
	heap.Init(&o.waiting)
}

// waiting is some of the variables, for the library's heap: the one with the greatest score goes first, of several such ones the least.
type waiting struct {
	row    []int
	scores []float64 // the variable v's at v, whether it waits or not
	places []int     // from 1 on: where in the row the variable v stands, at v
}

// nowhere is the place of a variable that doesn't wait.
const nowhere = 0

func (w *waiting) Len() int { return len(w.row) }

func (w *waiting) Less(i, k int) bool {
	a, b := w.row[i], w.row[k]
	if w.scores[a] != w.scores[b] {
		return w.scores[a] > w.scores[b]
	}
	return a < b
}

func (w *waiting) Swap(i, k int) {
	w.row[i], w.row[k] = w.row[k], w.row[i]
	w.places[w.row[i]], w.places[w.row[k]] = i+1, k+1
}

func (w *waiting) Push(x any) {
	v, _ := x.(int)
	w.row = append(w.row, v)
	w.places[v] = len(w.row)
}

func (w *waiting) Pop() any {
	end := len(w.row) - 1
	v := w.row[end]
	w.row = w.row[:end]
	w.places[v] = nowhere
	return v
}
