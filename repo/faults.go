package repo

import (
	"depot/api"
	"depot/relation"
	"depot/version"
)

// release is what no two packages of a list have in common: a name, and the one form of all versions that are as great.
type release struct {
	name, version string
}

// ownFault: the first fault that a package has whatever the list's others are.
func ownFault(p api.Package) api.Errno {
	switch {
	case !relation.Name(p.Name):
		return api.ErrName
	case !version.Legal(p.Version):
		return api.ErrVersion
	case !allChoices(p.Depends) || !allChoices(p.PreDepends):
		return api.ErrRel
	case !allFormed(p.Conflicts) || !allFormed(p.Breaks) || !allGifts(p.Provides):
		return api.ErrRel
	}
	return api.OK
}

// allChoices: has each list an alternative, and are all of them relations?
func allChoices(l [][]api.Rel) bool {
	for _, list := range l {
		if len(list) == 0 || !allFormed(list) {
			return false
		}
	}
	return true
}

// allFormed: are they relations?
func allFormed(l []api.Rel) bool {
	for _, r := range l {
		if !relation.Formed(r) {
			return false
		}
	}
	return true
}

// allGifts: are they relations that tell what is given: one version, or none?
func allGifts(l []api.Rel) bool {
	for _, r := range l {
		if r.Op != api.Any && r.Op != api.Same {
			return false
		}
	}
	return allFormed(l)
}

// asGreat: are they legal versions of which neither is below the other?
func asGreat(a, b string) bool {
	order, e := version.Cmp(a, b)
	return e == api.OK && order == 0
}
