package drat_test

import (
	"slices"
	"strings"
	"testing"

	"depot/api"
	"depot/drat"
)

// drawer draws things by a rule of its own, so that they are the same at every run.
type drawer struct{ state uint64 }

func drawn(seed uint64) *drawer { return &drawer{seed} }

// Intn: a number from 0 to n - 1.
func (d *drawer) Intn(n int) int {
	d.state = d.state*6364136223846793005 + 1442695040888963407
	return int(d.state >> 33 % uint64(n))
}

// pick: one of them.
func (d *drawer) pick(of ...string) string { return of[d.Intn(len(of))] }

// steps: some steps, over few variables or many, empty clauses and literals twice among them.
func (d *drawer) steps() []api.Step {
	var out []api.Step
	vars := []int{1, 2, 5, 40, 1000, api.MaxVar}[d.Intn(6)]
	for range d.Intn(7) {
		step := api.Step{Drop: d.Intn(3) == 0}
		for range d.Intn(6) {
			step.Lits = append(step.Lits, (1+d.Intn(vars))*(1-2*d.Intn(2)))
		}
		out = append(out, step)
	}
	return out
}

// idle: an idle line.
func (d *drawer) idle() string {
	return d.pick("\n", " \n", "\t \n", "c\n", "c 1 0\n", "cnf x\n", "c\td 1 0\n", "c ~ \\ \"\n", "cd\n", "c0\n")
}

// blank: what may stand for a space.
func (d *drawer) blank() string { return d.pick(" ", "\t", "  ", " \t ", "\t\t", " ") }

// edge: what may stand ahead of a line's first word, and behind its last.
func (d *drawer) edge() string { return d.pick("", "", " ", "\t", " \t") }

// withIdle: the text, whose lines all end with a line feed, with idle lines put in; and for each line of it, from 1 on, its number now, the line behind the last one too.
func (d *drawer) withIdle(s string) (string, []int) {
	var out strings.Builder
	moved := []int{0}
	put := 0
	for line := range strings.SplitAfterSeq(s, "\n") {
		for range d.Intn(3) {
			out.WriteString(d.idle())
			put++
		}
		moved = append(moved, len(moved)+put)
		out.WriteString(line)
	}
	return out.String(), moved
}

// reblanked: the text with other blanks between its words, at the edges of its lines too, unless they are remarks.
func (d *drawer) reblanked(s string) string {
	lines := strings.SplitAfter(s, "\n")
	for k, line := range lines {
		body := strings.TrimSuffix(line, "\n")
		if line == "" || line[0] == 'c' {
			continue
		}
		words := strings.FieldsFunc(body, func(r rune) bool { return r == ' ' || r == '\t' })
		out := d.edge()
		for j, word := range words {
			if j > 0 {
				out += d.blank()
			}
			out += word
		}
		// A blank ahead makes a word of what would be a remark without it.
		if len(words) > 0 && words[0][0] == 'c' {
			out = " " + out
		}
		lines[k] = out + d.edge() + line[len(body):]
	}
	return strings.Join(lines, "")
}

// recut: the text with other lines: line feeds for spaces, and spaces for line feeds.
func (d *drawer) recut(s string) string {
	out := []byte(s)
	for k, b := range out {
		if (b == ' ' || b == '\n') && d.Intn(2) == 0 {
			out[k] = "\n "[d.Intn(2)]
		}
	}
	return string(out)
}

// text: the steps' text.
func text(t *testing.T, l []api.Step) string {
	t.Helper()
	s, e := drat.Write(l)
	if e != api.OK {
		t.Fatalf("Write(%v): error %d", l, e)
	}
	return s
}

// P9.4: Read(Write(l)) is l.
func TestThereAndBack(t *testing.T) {
	draw := drawn(1)
	reads(t, text(t, nil))
	for range 3000 {
		l := draw.steps()
		reads(t, text(t, l), l...)
	}
	all := []api.Step{add(), drop()}
	for v := 1; v <= api.MaxVar; v++ {
		all[0].Lits, all[1].Lits = append(all[0].Lits, -v), append(all[1].Lits, v)
		if v%4 == 0 {
			all = append(all, drop(v, 1-v), add(-v))
		}
	}
	reads(t, text(t, all), all...)
}

// P9.4: the text of two lists, one behind the other, is that of the one list.
func TestTextsBehindOneAnother(t *testing.T) {
	draw := drawn(2)
	for range 3000 {
		a, b := draw.steps(), draw.steps()
		both := slices.Concat(a, b)
		one, two := text(t, a), text(t, b)
		if text(t, both) != one+two {
			t.Errorf("Write(%v) isn't %q and %q", both, one, two)
		}
		reads(t, one+two, both...)
	}
}

// P9.4: idle lines put in anywhere, and other blanks between words, change nothing; nor do other lines.
func TestIdleLinesChangeNothing(t *testing.T) {
	draw := drawn(3)
	for range 3000 {
		l := draw.steps()
		s := text(t, l)
		reads(t, draw.reblanked(s), l...)
		cut := draw.recut(s)
		reads(t, cut, l...)
		if !strings.HasSuffix(cut, "\n") {
			cut += "\n"
		}
		loose, _ := draw.withIdle(cut)
		reads(t, loose, l...)
		reads(t, draw.reblanked(loose), l...)
		reads(t, strings.TrimSuffix(loose, "\n"), l...)
	}
}

// P9.4: but lines' numbers: a fault is where its line is then, and the steps ahead of it are the same.
func TestIdleLinesMoveFaults(t *testing.T) {
	draw := drawn(4)
	faults := 0
	for range 5000 {
		s := draw.spoilt(draw.recut(text(t, draw.steps()))) + "\n"
		want, wantE, at := drat.Read(s)
		loose, moved := draw.withIdle(s)
		for _, other := range []string{loose, draw.reblanked(loose)} {
			l, e, line := drat.Read(other)
			if e != wantE || line != moved[at] || !equal(l, want) {
				t.Fatalf("Read(%q) = %v, %d, %d; of %q it was %v, %d, %d", other, l, e, line, s, want, wantE, at)
			}
			gives(t, other, round(other), round(s))
		}
		if wantE != api.OK {
			faults++
		}
	}
	if faults < 1000 || faults > 4500 {
		t.Errorf("%d of 5000 have a fault", faults)
	}
}

// P9.4: Steps of a text that Read takes gives what Read answers.
func TestStepsGivesWhatReadAnswers(t *testing.T) {
	draw := drawn(5)
	taken := 0
	for range 5000 {
		s := draw.spoilt(draw.reblanked(text(t, draw.steps())))
		if l, e, _ := drat.Read(s); e == api.OK {
			gives(t, s, round(s), l)
			taken++
		}
	}
	if taken < 500 {
		t.Errorf("only %d were taken", taken)
	}
}

// spoilt: the text with some bytes of it changed, taken out or put in.
func (d *drawer) spoilt(s string) string {
	for range d.Intn(4) {
		k := d.Intn(len(s) + 1)
		put := d.pick("0", "1", "-", " ", "\n", "c", "d", "\t", "\r", "\x00", "\xff", "+", "9", "x", " 0 ", "\nd ", "\nc ", "\nc\xc8\n", "ü", "")
		s = s[:k] + put + s[min(len(s), k+d.Intn(2)):]
	}
	return s
}
