package race_test

import (
	"slices"
	"testing"

	"depot/api"
	"depot/cnf"
	"depot/forward"
	"depot/race"
	"depot/solve"
)

// P19.4: of configs without a bound the first one answers.
func TestFirstWithoutABound(t *testing.T) {
	for seed := range uint64(150) {
		draw := drawn(seed + 1000)
		f := draw.hard(3 + draw.Intn(30))
		var l []api.Config
		for range 1 + draw.Intn(8) {
			l = append(l, draw.config(-1-draw.Intn(9)))
		}
		want, _ := solve.Solve(f, l[0])
		for _, workers := range []int{1, 3, 64} {
			answers(t, f, l, workers, 0, want)
		}
	}
}

// P19.4: Sat and Unsat are right, whoever answers them.
func TestAnswersAreRight(t *testing.T) {
	ends := map[int]int{}
	for seed := range uint64(200) {
		draw := drawn(seed + 2000)
		f := draw.hard(3 + draw.Intn(10))
		who, o, e := race.Race(f, draw.configs(f, 8), 1+draw.Intn(8))
		ends[o.End]++
		switch o.End {
		case api.Sat:
			if !cnf.Satisfies(f, o.Model) || len(o.Proof) != 0 {
				t.Fatalf("%v: %d, %v", f, who, o)
			}
		case api.Unsat:
			r, _ := forward.Check(f, o.Proof)
			if r.Code != api.Accepted || r.At != len(o.Proof)-1 || len(o.Model) != 0 {
				t.Fatalf("%v: %d, %v", f, who, o)
			}
		}
		if (o.End == api.Out) != (who == -1) || e != api.OK {
			t.Fatalf("%v: %d, %v, %d", f, who, o, e)
		}
	}
	for _, end := range []int{api.Sat, api.Unsat, api.Out} {
		if ends[end] < 20 {
			t.Errorf("the End %d came only %d times", end, ends[end])
		}
	}
}

// P19.4: configs behind the one that answers change nothing, slow or quick, few or many, with a bound or without.
func TestConfigsBehind(t *testing.T) {
	answered := 0
	for seed := range uint64(150) {
		draw := drawn(seed + 3000)
		f := draw.hard(5 + draw.Intn(25))
		l := draw.configs(f, 6)
		who, o := oneByOne(f, l)
		if who < 0 {
			continue
		}
		answered++
		l = l[:who+1]
		for _, workers := range []int{1, 2, 5, 64} {
			for _, more := range [][]api.Config{nil, {quick(-1)}, {slow(0)}, draw.configs(f, 10), slices.Repeat([]api.Config{slow(3)}, 80), slices.Clone(l)} {
				answers(t, f, slices.Concat(l, more), workers, who, o)
			}
		}
	}
	if answered < 50 {
		t.Errorf("only %d had an answer", answered)
	}
}

// P19.3, P19.4: configs that are spread can be raced; with a bound they answer what the least of them does, without one what the first does.
func TestSpreadAndRaced(t *testing.T) {
	f := pigeons(4)
	for _, budget := range []int{-1, 0, 20, 60, 100} {
		x := solve.Usual()
		x.Budget = budget
		l, e := race.Spread(x, 16)
		if e != api.OK {
			t.Fatal(e)
		}
		who, o := oneByOne(f, l)
		for _, workers := range []int{1, 4, 16, 64} {
			answers(t, f, l, workers, who, o)
		}
		if budget < 0 && who != 0 {
			t.Errorf("%d answers", who)
		}
	}
}
