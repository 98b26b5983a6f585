package repo_test

import (
	"regexp"
	"slices"
	"strings"

	"depot/api"
	"depot/control"
	"depot/relation"
	"depot/version"
)

// What follows here is a second reading of lists of packages by the document's words, and with no thought of time or room.

var aName = regexp.MustCompile(`^[a-z0-9][a-z0-9+.-]+$`)

// plainRel: is it a relation?
func plainRel(r api.Rel) bool {
	if r.Op == api.Any {
		return aName.MatchString(r.Name) && r.Version == ""
	}
	return aName.MatchString(r.Name) && r.Op >= api.Below && r.Op <= api.Above && version.Legal(r.Version)
}

// plainOwn: the first fault of a package but ErrSame.
func plainOwn(p api.Package) api.Errno {
	if !aName.MatchString(p.Name) {
		return api.ErrName
	}
	if !version.Legal(p.Version) {
		return api.ErrVersion
	}
	all := slices.Concat(p.Conflicts, p.Breaks, p.Provides)
	for _, l := range slices.Concat(p.Depends, p.PreDepends) {
		if len(l) == 0 {
			return api.ErrRel
		}
		all = append(all, l...)
	}
	for _, r := range p.Provides {
		if r.Op != api.Any && r.Op != api.Same {
			return api.ErrRel
		}
	}
	for _, r := range all {
		if !plainRel(r) {
			return api.ErrRel
		}
	}
	return api.OK
}

// plainSame: are they of one name, and is neither below the other?
func plainSame(p, q api.Package) bool {
	c, e := version.Cmp(p.Version, q.Version)
	return p.Name == q.Name && e == api.OK && c == 0
}

// plainFault: the first fault of the first package that has one.
func plainFault(r []api.Package) (api.Errno, int) {
	for k, p := range r {
		if e := plainOwn(p); e != api.OK {
			return e, k
		}
		if slices.ContainsFunc(r[:k], func(q api.Package) bool { return plainSame(q, p) }) {
			return api.ErrSame, k
		}
	}
	return api.OK, 0
}

// plainStanza: the package of a stanza. Letters' case doesn't count for the fields' names.
func plainStanza(s api.Stanza) (api.Package, api.Errno) {
	values := map[string]string{}
	for _, f := range slices.Backward(s.Fields) {
		values[strings.ToLower(f.Name)] = f.Value
	}
	out := api.Package{Name: values["package"], Version: values["version"]}
	if _, has := values["package"]; !has {
		return api.Package{}, api.ErrMissing
	}
	if _, has := values["version"]; !has {
		return api.Package{}, api.ErrMissing
	}
	var e [5]api.Errno
	out.Depends, e[0], _ = relation.Read(values["depends"])
	out.PreDepends, e[1], _ = relation.Read(values["pre-depends"])
	out.Conflicts, e[2], _ = relation.ReadList(values["conflicts"])
	out.Breaks, e[3], _ = relation.ReadList(values["breaks"])
	out.Provides, e[4], _ = relation.ReadList(values["provides"])
	for _, one := range e {
		if one != api.OK {
			return api.Package{}, one
		}
	}
	return out, api.OK
}

// plainRead: the packages of a text; the line of a fault.
func plainRead(s string) ([]api.Package, api.Errno, int) {
	stanzas, e, line := control.Read(s)
	if e != api.OK {
		return nil, e, line
	}
	var out []api.Package
	for _, one := range stanzas {
		p, e := plainStanza(one)
		if e != api.OK {
			return nil, e, one.Line
		}
		out = append(out, p)
	}
	return out, api.OK, 0
}

// plainOne: the text of a relation.
func plainOne(r api.Rel) string {
	if r.Op == api.Any {
		return r.Name
	}
	return r.Name + " (" + signs[r.Op] + " " + r.Version + ")"
}

// plainList: the texts of relations, with something between.
func plainList(l []api.Rel, between string) string {
	var out []string
	for _, r := range l {
		out = append(out, plainOne(r))
	}
	return strings.Join(out, between)
}

// plainWrite: the text of packages that are well shaped.
func plainWrite(r []api.Package) string {
	var out []string
	for _, p := range r {
		s := "Package: " + p.Name + "\nVersion: " + p.Version + "\n"
		field := func(name string, lists ...string) {
			if len(lists) > 0 {
				s += name + ": " + strings.Join(lists, ", ") + "\n"
			}
		}
		choices := func(l [][]api.Rel) (out []string) {
			for _, list := range l {
				out = append(out, plainList(list, " | "))
			}
			return out
		}
		field("Depends", choices(p.Depends)...)
		field("Pre-Depends", choices(p.PreDepends)...)
		for k, l := range [][]api.Rel{p.Conflicts, p.Breaks, p.Provides} {
			if len(l) > 0 {
				field([]string{"Conflicts", "Breaks", "Provides"}[k], plainList(l, ", "))
			}
		}
		out = append(out, s)
	}
	return strings.Join(out, "\n")
}

// others: the packages, in memory of their own, with each version replaced by what other answers of it.
func others(r []api.Package, other func(v string) string) []api.Package {
	out := cloned(r)
	for k := range out {
		p := &out[k]
		p.Version = other(p.Version)
		for _, l := range append(slices.Concat(p.Depends, p.PreDepends), p.Conflicts, p.Breaks, p.Provides) {
			for i := range l {
				if l[i].Op != api.Any {
					l[i].Version = other(l[i].Version)
				}
			}
		}
	}
	return out
}

// plainCanon: packages that are well shaped, with their canonical versions.
func plainCanon(r []api.Package) []api.Package {
	return others(r, func(v string) string {
		v, _ = version.Canon(v)
		return v
	})
}

// plainFind: the number of the first package of that name and a version that is as great.
func plainFind(r []api.Package, name, v string) int {
	return slices.IndexFunc(r, func(p api.Package) bool { return plainSame(p, pack(name, v)) })
}
