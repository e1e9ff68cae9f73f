package search

import (
	"iter"

	"truss/api"
	"truss/scope"
	"truss/shape"
	"truss/stop"
)

// heads visits the heads of a family in a context: the variables, from the variable 0 on, and then the constants.
func heads(sig []api.Decl, ctx []api.Term, family int) iter.Seq[api.Term] {
	isTarget := func(a api.Term) bool {
		target, ok := shape.Target(sig, a)
		return ok && target == family
	}
	return func(yield func(head api.Term) bool) {
		for n := range ctx {
			if isTarget(ctx[len(ctx)-1-n]) && !yield(api.Term{Op: api.TApp, Head: api.HVar, N: n}) {
				return
			}
		}
		for n, d := range sig {
			if isTarget(d.Class) && !yield(api.Term{Op: api.TApp, Head: api.HCon, N: n}) {
				return
			}
		}
	}
}

// height returns the height of an object with so many TLams around it.
func height(sig []api.Decl, ctx []api.Term, t api.Term, lams int) int {
	switch t.Op {
	case api.TLam:
		return height(sig, ctx, t.Args[0], lams+1)
	case api.TApp:
		greatest := 0
		for _, at := range premisesOf(sig, ctx, t, lams) {
			greatest = max(greatest, height(sig, ctx, t.Args[at], lams))
		}
		return greatest + 1
	}
	stop.At(api.ErrLevel)
	return 0
}

// premisesOf returns the positions of the premises of a TApp's head.
func premisesOf(sig []api.Decl, ctx []api.Term, t api.Term, lams int) []int {
	n, isFree := scope.Free(t, lams)
	var class api.Term
	switch {
	case t.Head == api.HVar && !isFree:
		return nil
	case t.Head == api.HVar && n < len(ctx):
		class = ctx[len(ctx)-1-n]
	case t.Head == api.HCon && t.N < len(sig):
		class = sig[t.N].Class
	default:
		stop.At(api.ErrScope)
	}
	if _, count := shape.Result(class); count != len(t.Args) {
		stop.At(api.ErrShape)
	}
	return shape.Clause(class).Premises
}
