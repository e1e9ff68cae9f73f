// Package scope is about what is in scope where something stands: variables and metavariables. Errors end the computation
// (package stop).
package scope

import (
	"iter"
	"slices"

	"truss/api"
	"truss/stop"
	"truss/subst"
	"truss/term"
)

// Longer returns a context with one more type.
func Longer(ctx []api.Term, a api.Term) []api.Term {
	if len(ctx) >= api.MaxCtx {
		stop.At(api.ErrFull)
	}
	// The context may be the caller's: nothing is written behind its end.
	return append(slices.Clip(ctx), a)
}

// TypeOf returns the type of a variable of a context, as it is meant in the whole context.
func TypeOf(ctx []api.Term, n int) api.Term {
	return stop.Value(term.Shift(ctx[len(ctx)-1-n], n+1, 0))
}

// ClassOf returns the class of the head of a TApp, which is a constant or a variable that there is.
func ClassOf(sig []api.Decl, ctx []api.Term, t api.Term) api.Term {
	if t.Head == api.HCon {
		return sig[t.N].Class
	}
	return TypeOf(ctx, t.N)
}

// AreProper reports whether terms are proper.
func AreProper(terms ...api.Term) bool {
	isWrong := func(t api.Term) bool { return term.Check(t) != api.OK }
	return !slices.ContainsFunc(terms, isWrong)
}

// IsOver reports whether terms are proper, and have metavariables of a list alone.
func IsOver(metas []api.Meta, terms ...api.Term) bool {
	isWrong := func(t api.Term) bool {
		list, err := term.Metas(t)
		return err != api.OK || len(list) > 0 && list[len(list)-1] >= len(metas)
	}
	return !slices.ContainsFunc(terms, isWrong)
}

// IsContext reports whether a list is not too long for a context, and its types are over a list of metavariables.
func IsContext(metas []api.Meta, ctx []api.Term) bool {
	return len(ctx) <= api.MaxCtx && IsOver(metas, ctx...)
}

// Args visits the Args of a term that has so many binders around it, each one with the number of those around itself.
func Args(t api.Term, binders int) iter.Seq2[int, api.Term] {
	return func(yield func(binders int, arg api.Term) bool) {
		for i, arg := range t.Args {
			around := binders
			if t.Op == api.TLam || t.Op == api.TPi && i == 1 {
				around++
			}
			if !yield(around, arg) {
				return
			}
		}
	}
}

// Free returns the number of the free variable that the head of a term with so many binders around it is, if it is one.
func Free(t api.Term, binders int) (int, bool) {
	return t.N - binders, t.Head == api.HVar && t.N >= binders
}

// Variables returns the numbers of the variables of which the objects of a spine are the long forms, and whether they are: each
// one that of another variable.
func Variables(spine []api.Term) ([]int, bool) {
	var variables []int
	for _, object := range spine {
		head, n, err := subst.Short(object)
		if err != api.OK || head != api.HVar || slices.Contains(variables, n) {
			return nil, false
		}
		variables = append(variables, n)
	}
	return variables, true
}

// Onto returns a term as it is meant where only these variables are in scope, the last one of them as the variable 0. It
// reports whether that is possible: whether no other variable is free in the term.
func Onto(variables []int, t api.Term) (api.Term, bool) {
	return onto(variables, t, 0)
}

func onto(variables []int, t api.Term, binders int) (api.Term, bool) {
	result := api.Term{Op: t.Op, Head: t.Head, N: t.N}
	if n, ok := Free(t, binders); ok {
		at := slices.Index(variables, n)
		if at < 0 {
			return api.Term{}, false
		}
		result.N = binders + len(variables) - 1 - at
	}
	for around, arg := range Args(t, binders) {
		moved, ok := onto(variables, arg, around)
		if !ok {
			return api.Term{}, false
		}
		result.Args = append(result.Args, moved)
	}
	return result, true
}

// Proper returns a term that is proper; any other one ends the computation.
func Proper(t api.Term) api.Term {
	if term.Check(t) != api.OK {
		stop.At(api.ErrFull)
	}
	return t
}

// Under returns a term with so many TLams around it, which must be proper.
func Under(lams int, t api.Term) api.Term {
	for range lams {
		t = api.Term{Op: api.TLam, Args: []api.Term{t}}
	}
	return Proper(t)
}
