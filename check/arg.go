package check

import (
	"slices"

	"truss/api"
	"truss/sign"
	"truss/term"
)

// newJudge returns the judge for arguments that are allowed; ErrArg if one is not, or if one of the other terms is not proper.
func newJudge(sig []api.Decl, metas []api.Meta, ctx []api.Term, others ...api.Term) (judge, api.Errno) {
	if sign.Check(sig) != api.OK || !areMetas(metas) || len(ctx) > api.MaxCtx || !areProper(ctx) || !areProper(others) {
		return judge{}, api.ErrArg
	}
	return judge{sig, metas, ctx}, api.OK
}

func areMetas(metas []api.Meta) bool {
	isWrong := func(m api.Meta) bool {
		free, err := term.Free(m.Class)
		return err != api.OK || len(free) > 0
	}
	return len(metas) <= api.MaxMetas && !slices.ContainsFunc(metas, isWrong)
}

func areProper(terms []api.Term) bool {
	isWrong := func(t api.Term) bool { return term.Check(t) != api.OK }
	return !slices.ContainsFunc(terms, isWrong)
}
