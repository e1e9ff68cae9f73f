package print

import (
	"slices"

	"truss/api"
	"truss/lexis"
	"truss/term"
)

func areMetas(metas []api.Meta) bool {
	isWrong := func(m api.Meta) bool { return m.Name != "" && !lexis.IsCapital(m.Name) }
	return len(metas) <= api.MaxMetas && !slices.ContainsFunc(metas, isWrong)
}

func areProper(terms []api.Term) bool {
	isWrong := func(t api.Term) bool { return term.Check(t) != api.OK }
	return !slices.ContainsFunc(terms, isWrong)
}

// checkHeads returns ErrScope if a proper term with n variables in scope has a head that there is not, and ErrShape if a
// constant in it has not all its implicit arguments.
func (w writer) checkHeads(t api.Term, n int) api.Errno {
	variables, _ := term.Free(t)
	constants, _ := term.Constants(t)
	metas, _ := term.Metas(t)
	if isBeyond(variables, n) || isBeyond(constants, len(w.sig)) || isBeyond(metas, len(w.metas)) {
		return api.ErrScope
	}
	if w.lacksImplicit(t) {
		return api.ErrShape
	}
	return api.OK
}

// isBeyond reports whether one of these numbers is not that of one of so many things.
func isBeyond(numbers []int, count int) bool {
	return len(numbers) > 0 && slices.Max(numbers) >= count
}

func (w writer) lacksImplicit(t api.Term) bool {
	return len(t.Args) < w.implicit(t) || slices.ContainsFunc(t.Args, w.lacksImplicit)
}
