package depend

import (
	"slices"

	"truss/api"
	"truss/shape"
	"truss/sign"
	"truss/term"
)

// checkConstants returns ErrArg if a signature is not formed, and ErrNone if it has not all of these constants.
func checkConstants(sig []api.Decl, list ...int) api.Errno {
	if sign.Check(sig) != api.OK {
		return api.ErrArg
	}
	isNone := func(n int) bool { return n < 0 || n >= len(sig) }
	if slices.ContainsFunc(list, isNone) {
		return api.ErrNone
	}
	return api.OK
}

// checkFamilies returns ErrLevel, too, if one of the constants is no family.
func checkFamilies(sig []api.Decl, list ...int) api.Errno {
	if err := checkConstants(sig, list...); err != api.OK {
		return err
	}
	isObject := func(n int) bool { return !shape.IsKind(sig[n].Class) }
	if slices.ContainsFunc(list, isObject) {
		return api.ErrLevel
	}
	return api.OK
}

// isContext reports whether a list is not too long for a context, and its types are proper and have targets.
func isContext(sig []api.Decl, ctx []api.Term) bool {
	isWrong := func(a api.Term) bool {
		if term.Check(a) != api.OK {
			return true
		}
		_, ok := shape.Target(sig, a)
		return !ok
	}
	return len(ctx) <= api.MaxCtx && !slices.ContainsFunc(ctx, isWrong)
}

// numbers returns the numbers from 0 to count - 1 that have a property.
func numbers(count int, has func(n int) bool) []int {
	var list []int
	for n := range count {
		if has(n) {
			list = append(list, n)
		}
	}
	return list
}
