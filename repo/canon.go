package repo

import (
	"strings"

	"depot/api"
	"depot/version"
)

// canonPackage: the package with each version in its one form, in memory of its own.
func canonPackage(p api.Package) api.Package {
	return api.Package{
		Name:       strings.Clone(p.Name),
		Version:    canon(p.Version),
		Depends:    canonChoices(p.Depends),
		PreDepends: canonChoices(p.PreDepends),
		Conflicts:  canonList(p.Conflicts),
		Breaks:     canonList(p.Breaks),
		Provides:   canonList(p.Provides),
	}
}

// canonChoices: the lists, likewise.
func canonChoices(l [][]api.Rel) [][]api.Rel {
	out := make([][]api.Rel, len(l))
	for k, list := range l {
		out[k] = canonList(list)
	}
	return out
}

// canonList: the relations, likewise.
func canonList(l []api.Rel) []api.Rel {
	out := make([]api.Rel, len(l))
	for k, r := range l {
		out[k] = api.Rel{Name: strings.Clone(r.Name), Op: r.Op}
		if r.Op != api.Any {
			out[k].Version = canon(r.Version)
		}
	}
	return out
}

// canon: the one form of a version that is legal.
func canon(s string) string {
	out, _ := version.Canon(s)
	return out
}
