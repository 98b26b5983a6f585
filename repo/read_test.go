package repo_test

import (
	"fmt"
	"strings"
	"testing"

	"depot/api"
	"depot/relation"
	"depot/repo"
)

const (
	example = "Package: ab\nVersion: 1\nDepends: cd (>= 2) | ef, gh\nProvides: ij (= 3)\n\npackage: cd\nVERSION: 2\nMaintainer: x\n"
	head    = "Package: ab\nVersion: 1\n"
)

func examplePackages() []api.Package {
	return packs(api.Package{Name: "ab", Version: "1", Depends: choices(list(rel("cd", ">=", "2"), rel("ef")), list(rel("gh"))), Provides: list(rel("ij", "=", "3"))}, pack("cd", "2"))
}

// P23.2: the chapter's examples.
func TestReadExamples(t *testing.T) {
	reads(t, example, examplePackages()...)
	reads(t, "")
	refuses(t, "Package: ab\n", api.ErrMissing, 1)
	refuses(t, "\n# x\nVersion: 1\n\nPackage: ab\nVersion: 1\n", api.ErrMissing, 3)
	_, bracket, _ := relation.Read(")")
	refuses(t, "Version: 1\nPackage: ab\nConflicts: (\nDepends: )\n", bracket, 1)
	refuses(t, "Package: ab\nx\n", api.ErrField, 2)
	reads(t, "Package: A\nVersion: a\n", pack("A", "a"))
	l, _, _ := repo.Read("Package: A\nVersion: a\n")
	faulty(t, api.ErrName, 0, l...)
}

// P23.2: texts without stanzas have no packages.
func TestReadNone(t *testing.T) {
	for _, s := range []string{"", "\n", "\n\n\n", " \n\t\n", "# x", "# x\n\n#Package: ab\n", "#"} {
		reads(t, s)
	}
}

// P23.2: control's faults, with their lines, go ahead of every fault of a package, wherever they stand.
func TestStanzasFirst(t *testing.T) {
	bad := []string{"Package: ab\n", "Version: 1\n", "A: 1\n", head + "Depends: (\n", head + "Provides: A\n"}
	for _, x := range []struct {
		s    string
		e    api.Errno
		line int
	}{
		{"x\n", api.ErrField, 1}, {" x: 1\n", api.ErrField, 1}, {": 1\n", api.ErrField, 1}, {"-A: 1\n", api.ErrField, 1},
		{"A: 1\na: 2\n", api.ErrTwice, 2}, {"Package: ab\nVersion: 1\nPACKAGE: ab\n", api.ErrTwice, 3}, {"Depends: a\nDepends: a\n", api.ErrTwice, 2},
		{"A: \xff\n", api.ErrText, 1}, {"Package: ab\r\n", api.ErrText, 1}, {"# \x00\n", api.ErrText, 1}, {"A: 1\n \x7f\n", api.ErrText, 2},
	} {
		refuses(t, x.s, x.e, x.line)
		for _, ahead := range append(bad, head, example) {
			n := strings.Count(ahead, "\n") + 1
			refuses(t, ahead+"\n"+x.s, x.e, n+x.line)
			refuses(t, ahead+"\n"+x.s+"\n"+ahead, x.e, n+x.line)
			refuses(t, "# x\n\n"+ahead+"\n\n"+x.s, x.e, n+3+x.line)
		}
	}
}

// P23.2: ErrMissing, if there is no field Package or no field Version; ahead of what the relations' fields hold.
func TestMissing(t *testing.T) {
	for _, s := range []string{
		"Package: ab\n", "Version: 1\n", "Maintainer: x\n", "Package: ab\nMaintainer: x\n", "Version: 1\nMaintainer: x\n",
		"Package: ab\nVersions: 1\n", "Pack: ab\nVersion: 1\n", "Package-: ab\nVersion: 1\n", "Name: ab\nVersion: 1\n", "Package: ab\n#Version: 1\n", "Package: ab\n Version: 1\n",
		"Package: ab\nDepends: cd\n", "Package: ab\nDepends: (\n", "Provides: A\nVersion: 1\n", "Depends: (\nPre-Depends: (\nConflicts: (\nBreaks: (\nProvides: (\n", "Depends: cd\n",
		"Package:\n", "Version:\n",
	} {
		refuses(t, s, api.ErrMissing, 1)
		refuses(t, "\n# x\n \n"+s, api.ErrMissing, 4)
		refuses(t, s+"\n"+head, api.ErrMissing, 1)
		refuses(t, s+"\n"+s, api.ErrMissing, 1)
		refuses(t, head+"\n"+s, api.ErrMissing, 4)
		refuses(t, example+"\n\n# Version: 1\n"+s+"\n"+example, api.ErrMissing, 12)
	}
	// A gap ends the stanza, a remark doesn't.
	refuses(t, "Package: ab\n\nVersion: 1\n", api.ErrMissing, 1)
	refuses(t, "Package: ab\n \t\nVersion: 1\n", api.ErrMissing, 1)
	reads(t, "Package: ab\n# x\nVersion: 1\n", pack("ab", "1"))
}

// P23.2: names and versions are kept as they stand, whatever they are; fields that are there and empty are there.
func TestNamesAsTheyStand(t *testing.T) {
	for _, s := range []string{"", "A", "ab cd", "1:2:3-", "é", "#", ":", "(= 1)", "a,b", "x\ny", "\nx", "x\n\ty"} {
		value := strings.ReplaceAll(s, "\n", "\n ")
		want := strings.ReplaceAll(s, "\t", "")
		reads(t, "Package: "+value+"\nVersion: 1\n", pack(want, "1"))
		reads(t, "Version:\t"+value+" \t\nPackage:ab\n", pack("ab", want))
		reads(t, "Package: "+value+"\nVersion: "+value, pack(want, want))
	}
	reads(t, "Package:\nVersion:\n", pack("", ""))
	reads(t, "Package:\nVersion:\n\nPackage:\nVersion:\n", pack("", ""), pack("", ""))
	reads(t, head+"\n"+head, pack("ab", "1"), pack("ab", "1"))
}

// P23.2: letters' case doesn't count in fields' names; all else of them does.
func TestNamesInOtherCase(t *testing.T) {
	want := api.Package{Name: "ab", Version: "1", Depends: choices(list(rel("aa"), rel("bb"))), PreDepends: choices(list(rel("cc"))), Conflicts: list(rel("dd")), Breaks: list(rel("ee")), Provides: list(rel("ff"))}
	s := "Package: ab\nVersion: 1\nDepends: aa | bb\nPre-Depends: cc\nConflicts: dd\nBreaks: ee\nProvides: ff\n"
	reads(t, s, want)
	reads(t, strings.ToLower(s), want)
	mixed := ""
	for _, line := range strings.SplitAfter(s, "\n") {
		name, value, has := strings.Cut(line, ":")
		if has {
			mixed += strings.ToUpper(name[:len(name)/2]) + strings.ToLower(name[len(name)/2:]) + ":" + value
			reads(t, strings.Replace(s, line, strings.ToUpper(name)+":"+value, 1), want)
			reads(t, strings.Replace(s, line, strings.ToLower(name)+":"+value, 1), want)
		}
	}
	reads(t, mixed, want)
}

// P23.2: fields of other names say nothing, whatever they hold.
func TestOtherFields(t *testing.T) {
	for _, name := range []string{"Maintainer", "PreDepends", "Pre_Depends", "Depend", "Dependss", "Conflict", "Break", "Provide", "Recommends", "Versio", "Versions", "Packages", "X", "Pre-Depend"} {
		for _, value := range []string{"", "x", "(", "aa", "aa (= 1)", "é\n more"} {
			field := name + ": " + value + "\n"
			reads(t, field+head, pack("ab", "1"))
			reads(t, head+field, pack("ab", "1"))
			reads(t, "Package: ab\n"+field+"Version: 1\nDepends: cd\n", api.Package{Name: "ab", Version: "1", Depends: choices(list(rel("cd")))})
		}
	}
}

// P23.2: each of the five fields alone and together with others: what relation reads of it goes where it belongs.
func TestEachField(t *testing.T) {
	for _, at := range places() {
		for _, r := range []api.Rel{rel("cd"), rel("cd", "<<", "1"), rel("cd", "<=", "01"), rel("cd", "=", "1:2-3"), rel("cd", ">=", "2"), rel("cd", ">>", "1~")} {
			field := at.field + ": " + plainOne(r) + "\n"
			reads(t, head+field, at.with(r))
			reads(t, field+head, at.with(r))
			reads(t, "Version: 1\n"+field+"Package: ab\n", at.with(r))
			reads(t, example+"\n"+head+field+"\n\n"+example, append(append(examplePackages(), at.with(r)), examplePackages()...)...)
		}
		for _, none := range []string{"", " ", "\t ", "\n# x"} {
			reads(t, head+at.field+":"+none+"\n", pack("ab", "1"))
			reads(t, at.field+":"+none+"\n"+head, pack("ab", "1"))
		}
		if at.field == "Depends" || at.field == "Pre-Depends" {
			reads(t, head+at.field+": cd|ef (= 1)\n\t | gh\n", at.with(rel("cd"), rel("ef", "=", "1"), rel("gh")))
			refuses(t, head+at.field+": cd,\n", api.ErrRel, 1)
			continue
		}
		reads(t, head+at.field+": cd,ef (= 1)\n\t ,\n gh\n", at.with(rel("cd"), rel("ef", "=", "1"), rel("gh")))
		refuses(t, head+at.field+": cd | ef\n", api.ErrRel, 1)
	}
	reads(t, head+"Depends: cd, ef | gh\n", api.Package{Name: "ab", Version: "1", Depends: choices(list(rel("cd")), list(rel("ef"), rel("gh")))})
	reads(t, head+"Pre-Depends: cd, ef | gh\n", api.Package{Name: "ab", Version: "1", PreDepends: choices(list(rel("cd")), list(rel("ef"), rel("gh")))})
}

// wrongText is a text that relation refuses, and with what.
type wrongText struct {
	s string
	e api.Errno
}

var wrongTexts = []wrongText{{"(", api.ErrRel}, {"cd,", api.ErrRel}, {"A", api.ErrName}, {"cd, e", api.ErrName}, {"cd (= x)", api.ErrVersion}, {"cd (>= 1), cd (<< 1-)", api.ErrVersion}, {"cd (> 1)", api.ErrRel}}

// P23.2: each of the five fields faulty alone: relation's error, at the first line of the stanza.
func TestFaultyField(t *testing.T) {
	for _, at := range places() {
		for _, x := range wrongTexts {
			field := at.field + ": " + x.s + "\n"
			refuses(t, head+field, x.e, 1)
			refuses(t, field+head, x.e, 1)
			refuses(t, "Version: 1\n"+strings.ToUpper(field[:1])+field[1:]+"Package: ab\n", x.e, 1)
			refuses(t, "\n# x\n\n"+head+"# y\n"+field+"\n"+head, x.e, 4)
			refuses(t, example+"\n \n#\n"+head+"Maintainer: x\n"+field, x.e, 12)
			refuses(t, head+at.field+":\n "+x.s+"\n", x.e, 1)
		}
	}
}

// P23.2: of two faulty fields the one that is asked for first is told, in whatever order they stand.
func TestFaultyFieldsInOrder(t *testing.T) {
	all := places()
	for i, first := range all {
		for _, later := range all[i+1:] {
			for _, x := range wrongTexts {
				for _, y := range wrongTexts {
					one, other := first.field+": "+x.s+"\n", later.field+": "+y.s+"\n"
					refuses(t, head+one+other, x.e, 1)
					refuses(t, head+other+one, x.e, 1)
					refuses(t, other+"Version: 1\n"+one+"Package: ab\n", x.e, 1)
					refuses(t, head+"\n"+other+head+one, x.e, 4)
				}
			}
		}
	}
}

// P23.2: of two stanzas with faults the first is told; a fault in a later one leaves no packages.
func TestFaultyStanzasInOrder(t *testing.T) {
	type faulty struct {
		s string
		e api.Errno
	}
	all := []faulty{{"Package: ab\n", api.ErrMissing}, {"Version: 1\n", api.ErrMissing}}
	for _, at := range places() {
		for _, x := range wrongTexts {
			all = append(all, faulty{head + at.field + ": " + x.s + "\n", x.e})
		}
	}
	for _, one := range all {
		for _, other := range all {
			refuses(t, one.s+"\n"+other.s, one.e, 1)
			refuses(t, head+"\n"+head+"\n"+one.s+"\n"+other.s, one.e, 7)
			refuses(t, "#\n"+example+"\n"+one.s+"\n"+example+"\n"+other.s, one.e, 11)
		}
	}
}

// P23.2: what is read need not be well shaped.
func TestReadUnshaped(t *testing.T) {
	for _, x := range []struct {
		s    string
		want []api.Package
		e    api.Errno
		at   int
	}{
		{head + "\nPackage: A\nVersion: 1\n", packs(pack("ab", "1"), pack("A", "1")), api.ErrName, 1},
		{head + "\nPackage: ab\nVersion: 1-\n", packs(pack("ab", "1"), pack("ab", "1-")), api.ErrVersion, 1},
		{head + "\nPackage: ab\nVersion: 0:1\n", packs(pack("ab", "1"), pack("ab", "0:1")), api.ErrSame, 1},
		{head + "Provides: cd (>= 1)\n", packs(api.Package{Name: "ab", Version: "1", Provides: list(rel("cd", ">=", "1"))}), api.ErrRel, 0},
		{"Package:\nVersion:\n", packs(pack("", "")), api.ErrName, 0},
	} {
		reads(t, x.s, x.want...)
		l, _, _ := repo.Read(x.s)
		faulty(t, x.e, x.at, l...)
	}
}

// texts: all texts of up to so many of the pieces.
func texts(most int, pieces ...string) []string {
	out := []string{""}
	for from := 0; most > 0; most-- {
		to := len(out)
		for _, s := range out[from:to] {
			for _, p := range pieces {
				out = append(out, s+p)
			}
		}
		from = to
	}
	return out
}

// readsAsWords: what is read is what the document's words say; the error.
func readsAsWords(t *testing.T, s string) api.Errno {
	t.Helper()
	want, e, line := plainRead(s)
	if e == api.OK {
		reads(t, s, want...)
	} else {
		refuses(t, s, e, line)
	}
	if t.Failed() {
		t.FailNow()
	}
	return e
}

// P23.2: of all short texts of these lines the answer is that of the document's words.
func TestShortTextsAsWords(t *testing.T) {
	seen := map[api.Errno]int{}
	for _, all := range [][]string{
		texts(5, "Package: ab\n", "version: 1\n", "\n", "Depends: (\n", "Conflicts: A\n", "# x\n", " x\n"),
		texts(5, "Package: ab\nVersion: 1\n", "Provides: a b\n", "Breaks: ab (= x)\n", "\n", "Pre-Depends: ab |\n", "DEPENDS: a1 | b1\n", "x\n"),
	} {
		for _, s := range all {
			seen[readsAsWords(t, s)]++
		}
	}
	wantEach(t, seen, api.OK, api.ErrMissing, api.ErrRel, api.ErrName, api.ErrVersion, api.ErrField, api.ErrTwice)
}

// drawnText: packages as a text, with gaps, remarks and other fields put in, and fields in another order.
func (d *drawer) drawnText(r []api.Package) string {
	var out strings.Builder
	for _, stanza := range strings.SplitAfter(plainWrite(r), "\n\n") {
		fields := strings.SplitAfter(strings.TrimRight(stanza, "\n")+"\n", "\n")
		fields = fields[:len(fields)-1]
		out.WriteString(d.pick("", "", "\n", "# x\n", "# x\n\n"))
		for n := len(fields); n > 0; n-- {
			k := d.Intn(n)
			out.WriteString(d.pick("", "", "# y\n", fmt.Sprintf("Field-%d: x\n", n)))
			out.WriteString(fields[k])
			fields = without(fields, k)
		}
		out.WriteString(d.pick("\n", "\n", " \n", "\n\n"))
	}
	return out.String()
}

// P23.2: of many drawn texts, whole ones and spoilt ones.
func TestDrawnTextsAsWords(t *testing.T) {
	draw := drawn(2)
	seen := map[api.Errno]int{}
	for range 20000 {
		r := draw.packages(4)
		s := draw.drawnText(r)
		if len(r) > 0 {
			reads(t, s, r...)
		}
		seen[readsAsWords(t, draw.spoilt(s))]++
	}
	wantEach(t, seen, api.OK, api.ErrMissing, api.ErrRel, api.ErrName, api.ErrVersion, api.ErrField, api.ErrTwice, api.ErrText)
}

// P23.2: texts of very many packages, very many fields and very many relations, with a fault at their end.
func TestLongTexts(t *testing.T) {
	var out strings.Builder
	var want []api.Package
	for k := range 20000 {
		name := fmt.Sprintf("ab%d", k)
		fmt.Fprintf(&out, "Package: %s\nVersion: %d\nBreaks: cd\n\n", name, k)
		want = append(want, api.Package{Name: name, Version: fmt.Sprint(k), Breaks: list(rel("cd"))})
	}
	reads(t, out.String(), want...)
	refuses(t, out.String()+head+"Breaks: (\n", api.ErrRel, 80001)
	refuses(t, out.String()+"Package: ab\n", api.ErrMissing, 80001)
	out.Reset()
	for k := range 20000 {
		fmt.Fprintf(&out, "X-%d: x\n", k)
	}
	reads(t, out.String()+head+"Breaks: cd\n", api.Package{Name: "ab", Version: "1", Breaks: list(rel("cd"))})
	refuses(t, out.String()+head+"Breaks: cd |\n", api.ErrRel, 1)
	many := api.Package{Name: "ab", Version: "1"}
	for range 20000 {
		many.Depends = append(many.Depends, list(rel("cd"), rel("ef", "=", "1")))
	}
	reads(t, head+"Depends: cd | ef (= 1)"+strings.Repeat(",\n cd | ef(=1)", 19999)+"\n", many)
	refuses(t, head+"Depends: cd"+strings.Repeat(",\n cd", 20000)+" |\n", api.ErrRel, 1)
}
