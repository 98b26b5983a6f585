package solve_test

import (
	"testing"

	"depot/api"
	"depot/cnf"
	"depot/solve"
)

// P17.5: without a bound Solve is Sat just if some model satisfies the formula.
func TestSatJustIfAModel(t *testing.T) {
	count := map[int]int{}
	for seed := range uint64(1500) {
		draw := drawn(seed + 5000)
		f := draw.hard(2 + draw.Intn(13))
		for _, config := range []api.Config{solve.Usual(), draw.config()} {
			n, _ := cnf.Count(f)
			o, e := solve.Solve(f, config)
			if e != api.OK || (o.End == api.Sat) != (n > 0) || o.End != api.Sat && o.End != api.Unsat {
				t.Fatalf("Solve(%v, %v): End %d, error %d; %d models", f, config, o.End, e, n)
			}
			count[o.End]++
		}
	}
	if count[api.Sat] < 500 || count[api.Unsat] < 500 {
		t.Errorf("only %v", count)
	}
}

// P17.5: of two formulas joined it is Unsat, if it is of one of them.
func TestJoined(t *testing.T) {
	count := map[int]int{}
	for seed := range uint64(800) {
		draw := drawn(seed + 7000)
		f, g := draw.hard(2+draw.Intn(20)), draw.loose(2+draw.Intn(20))
		config := draw.config()
		unsat := ends(t, f, config, solved(t, f, solve.Usual()).End).End == api.Unsat || solved(t, g, config).End == api.Unsat
		for _, x := range [][2]api.Formula{{f, g}, {g, f}} {
			joined, _ := cnf.Join(x[0], x[1])
			o := solved(t, joined, draw.config())
			if unsat && o.End != api.Unsat {
				t.Fatalf("%v and %v joined: End %d", x[0], x[1], o.End)
			}
			count[o.End]++
		}
	}
	if count[api.Sat] < 100 || count[api.Unsat] < 100 {
		t.Errorf("only %v", count)
	}
}

// P17.5: All with all variables and a most that is no less than Count answers just the models that satisfy the formula.
func TestAllIsAll(t *testing.T) {
	models := 0
	for seed := range uint64(400) {
		draw := drawn(seed + 9000)
		f := draw.loose(1 + draw.Intn(10))
		n, _ := cnf.Count(f)
		for _, most := range []int{n, n + 1, 1 << 40} {
			list, e := solve.All(f, f.Vars, most, draw.config())
			if e != api.OK || len(list) != n {
				t.Fatalf("All(%v): %d models, error %d; Count is %d", f, len(list), e, n)
			}
			want := kinds(f, f.Vars)
			for _, m := range list {
				want[key(m, f.Vars)]--
			}
			for text, left := range want {
				if left != 0 {
					t.Fatalf("All(%v): %s is there %d times", f, text, 1-left)
				}
			}
		}
		models += n
	}
	if models < 5000 {
		t.Errorf("only %d models", models)
	}
}
