// Package equate makes equations: of what is to be the same if two types, or two spines, are. Errors end the computation
// (package stop).
package equate

import (
	"truss/api"
	"truss/meta"
	"truss/scope"
	"truss/sign"
	"truss/stop"
	"truss/subst"
)

// Accept reports whether a signature is formed, and a list of metavariables, and whether these equations are over it, and
// not too many.
func Accept(sig []api.Decl, metas []api.Meta, list []api.Equation) bool {
	if sign.Check(sig) != api.OK || meta.Check(metas) != api.OK || len(list) > api.MaxLeft {
		return false
	}
	for _, q := range list {
		if !scope.IsContext(metas, q.Ctx) || !scope.IsOver(metas, q.A, q.B, q.Class) {
			return false
		}
	}
	return true
}

// Types returns the equations of two types in a context.
func Types(sig []api.Decl, ctx []api.Term, a, b api.Term) []api.Equation {
	switch {
	case !isTypeByForm(a) || !isTypeByForm(b):
		stop.At(api.ErrLevel)
	case a.Op != b.Op:
		stop.At(api.ErrClash)
	case a.Op == api.TPi:
		domains := Types(sig, ctx, a.Args[0], b.Args[0])
		bodies := Types(sig, scope.Longer(ctx, a.Args[0]), a.Args[1], b.Args[1])
		return append(domains, bodies...)
	case a.Head != api.HCon || b.Head != api.HCon || a.N != b.N:
		stop.At(api.ErrClash)
	}
	return Spines(sig, ctx, a, b)
}

func isTypeByForm(t api.Term) bool {
	return t.Op == api.TPi || t.Op == api.TApp
}

// Spines returns the equations of the spines of two TApps in a context, which have the same constant or variable as their
// heads.
func Spines(sig []api.Decl, ctx []api.Term, a, b api.Term) []api.Equation {
	if a.Head == api.HCon && a.N >= len(sig) || a.Head == api.HVar && a.N >= len(ctx) {
		stop.At(api.ErrScope)
	}
	if len(a.Args) != len(b.Args) {
		stop.At(api.ErrShape)
	}
	var list []api.Equation
	class := scope.ClassOf(sig, ctx, a)
	for i, object := range a.Args {
		if class.Op != api.TPi {
			stop.At(api.ErrShape)
		}
		list = append(list, api.Equation{Ctx: ctx, A: object, B: b.Args[i], Class: class.Args[0]})
		class = stop.Value(subst.Instance(class, []api.Term{object}))
	}
	return list
}

// Resolved returns an equation with new memory, in which everything is resolved.
func Resolved(metas []api.Meta, q api.Equation) api.Equation {
	var result api.Equation
	for _, a := range q.Ctx {
		result.Ctx = append(result.Ctx, stop.Value(meta.Resolve(metas, a)))
	}
	result.A = stop.Value(meta.Resolve(metas, q.A))
	result.B = stop.Value(meta.Resolve(metas, q.B))
	result.Class = stop.Value(meta.Resolve(metas, q.Class))
	return result
}
