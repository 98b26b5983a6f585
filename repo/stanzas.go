package repo

import (
	"strconv"

	"depot/api"
	"depot/control"
	"depot/relation"
)

// The fields of a package's stanza.
const (
	nameField       = "Package"
	versionField    = "Version"
	dependsField    = "Depends"
	preDependsField = "Pre-Depends"
	conflictsField  = "Conflicts"
	breaksField     = "Breaks"
	providesField   = "Provides"
)

// asked: the fields in the order in which they are asked for. Those that may not be missing go ahead.
var asked = [...]string{nameField, versionField, dependsField, preDependsField, conflictsField, breaksField, providesField}

// fault is what is wrong with a stanza, and the line of that.
type fault struct {
	errno api.Errno
	line  int
}

func (f fault) Error() string {
	return "error " + strconv.Itoa(int(f.errno)) + " in line " + strconv.Itoa(f.line)
}

// draft is a package that is read field by field.
type draft api.Package

// take puts a field's value where it belongs in a draft.
type take func(d *draft, value string) api.Errno

// takes: of each field where its value goes.
func takes() map[string]take {
	return map[string]take{
		nameField:       (*draft).takeName,
		versionField:    (*draft).takeVersion,
		dependsField:    (*draft).takeDepends,
		preDependsField: (*draft).takePreDepends,
		conflictsField:  (*draft).takeConflicts,
		breaksField:     (*draft).takeBreaks,
		providesField:   (*draft).takeProvides,
	}
}

// A name and a version are kept whatever they are: what is read need not be well shaped.

func (d *draft) takeName(value string) api.Errno {
	d.Name = value
	return api.OK
}

func (d *draft) takeVersion(value string) api.Errno {
	d.Version = value
	return api.OK
}

func (d *draft) takeDepends(value string) (e api.Errno) {
	d.Depends, e, _ = relation.Read(value)
	return e
}

func (d *draft) takePreDepends(value string) (e api.Errno) {
	d.PreDepends, e, _ = relation.Read(value)
	return e
}

func (d *draft) takeConflicts(value string) (e api.Errno) {
	d.Conflicts, e, _ = relation.ReadList(value)
	return e
}

func (d *draft) takeBreaks(value string) (e api.Errno) {
	d.Breaks, e, _ = relation.ReadList(value)
	return e
}

func (d *draft) takeProvides(value string) (e api.Errno) {
	d.Provides, e, _ = relation.ReadList(value)
	return e
}

// packagesOf: a package of each stanza; a fault, if one of them has one.
func packagesOf(l []api.Stanza) ([]api.Package, error) {
	where := takes()
	var out []api.Package
	for _, stanza := range l {
		p, err := packageOf(stanza, where)
		if err != nil {
			return nil, err
		}
		out = append(out, p)
	}
	return out, nil
}

// packageOf: the package of a stanza, whose fields go where they belong; a fault, if it has one.
func packageOf(s api.Stanza, where map[string]take) (api.Package, error) {
	var made draft
	for _, name := range asked {
		value, has := control.Get(s, name)
		switch {
		case has:
			if e := where[name](&made, value); e != api.OK {
				return api.Package{}, fault{e, s.Line}
			}
		case name == nameField || name == versionField:
			return api.Package{}, fault{api.ErrMissing, s.Line}
		}
	}
	return api.Package(made), nil
}

// fieldsOf: the fields of a package that is well shaped, so that its relations have texts; none is empty.
func fieldsOf(p api.Package) []api.Field {
	var out []api.Field
	for _, f := range [...]api.Field{
		{Name: nameField, Value: p.Name},
		{Name: versionField, Value: p.Version},
		{Name: dependsField, Value: choicesText(p.Depends)},
		{Name: preDependsField, Value: choicesText(p.PreDepends)},
		{Name: conflictsField, Value: listText(p.Conflicts)},
		{Name: breaksField, Value: listText(p.Breaks)},
		{Name: providesField, Value: listText(p.Provides)},
	} {
		if f.Value != "" {
			out = append(out, f)
		}
	}
	return out
}

// choicesText: the text of lists of alternatives; none, if there are no lists.
func choicesText(l [][]api.Rel) string {
	s, _ := relation.Write(l)
	return s
}

// listText: the text of relations; none, if there are none.
func listText(l []api.Rel) string {
	s, _ := relation.WriteList(l)
	return s
}
