package meta

import (
	"slices"

	"truss/api"
	"truss/check"
	"truss/lexis"
	"truss/subst"
	"truss/term"
)

func isFormed(metas []api.Meta) bool {
	if len(metas) > api.MaxMetas || !areNamed(metas) {
		return false
	}
	for t := range parts(metas) {
		if !areOver(metas, t) || !isClosed(t) {
			return false
		}
	}
	return !slices.ContainsFunc(metas, isWrong) && !hasCircle(metas)
}

// areNamed reports whether each Name is empty, or a capital name that no other metavariable has.
func areNamed(metas []api.Meta) bool {
	for n, m := range metas {
		if m.Name != "" && (!lexis.IsCapital(m.Name) || isNamed(metas[:n], m.Name)) {
			return false
		}
	}
	return true
}

func isNamed(metas []api.Meta, name string) bool {
	return slices.ContainsFunc(metas, func(m api.Meta) bool { return m.Name == name })
}

// isWrong reports whether a metavariable has no type, by its form, as its Class, or has a Value without being solved.
func isWrong(m api.Meta) bool {
	_, err := term.Simple(m.Class)
	return err != api.OK || !m.Solved && !term.Same(m.Value, api.Term{})
}

// areOver reports whether terms are proper, and have metavariables of a list alone.
func areOver(metas []api.Meta, terms ...api.Term) bool {
	for _, t := range terms {
		if term.Check(t) != api.OK {
			return false
		}
		for n := range within(t) {
			if n >= len(metas) {
				return false
			}
		}
	}
	return true
}

func isClosed(t api.Term) bool {
	free, _ := term.Free(t)
	return len(free) == 0
}

// checkTyped returns OK if the Class of a metavariable is a type, and its Value, if it is solved, an object of it.
func checkTyped(sig []api.Decl, metas []api.Meta, m api.Meta) api.Errno {
	if err := check.Type(sig, metas, nil, m.Class); err != api.OK {
		return err
	}
	if !m.Solved {
		return api.OK
	}
	return check.Object(sig, metas, nil, m.Value, m.Class)
}

// changed returns a list in which each Class and each Value is what change makes of it, from the first metavariable on.
func changed(metas []api.Meta, change func(api.Term) (api.Term, api.Errno)) ([]api.Meta, api.Errno) {
	var list []api.Meta
	for _, m := range metas {
		class, err := change(m.Class)
		if err != api.OK {
			return nil, err
		}
		next := api.Meta{Name: m.Name, Class: class, Solved: m.Solved}
		if m.Solved {
			next.Value, err = change(m.Value)
		}
		if err != api.OK {
			return nil, err
		}
		list = append(list, next)
	}
	return list, api.OK
}

func copied(metas []api.Meta) []api.Meta {
	list, _ := changed(metas, func(t api.Term) (api.Term, api.Errno) { return clone(t), api.OK })
	return list
}

func clone(t api.Term) api.Term {
	same, _ := subst.Instance(t, nil)
	return same
}
