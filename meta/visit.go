package meta

import (
	"iter"

	"truss/api"
)

// parts visits the terms of a list: the Class of each metavariable, and its Value if it is solved.
func parts(metas []api.Meta) iter.Seq[api.Term] {
	return func(yield func(api.Term) bool) {
		for _, m := range metas {
			if !yield(m.Class) || m.Solved && !yield(m.Value) {
				return
			}
		}
	}
}

// within visits the metavariables of a term from left to right, as often as they occur.
func within(t api.Term) iter.Seq[int] {
	return func(yield func(n int) bool) { visit(t, yield) }
}

// visit reports whether it has not been stopped.
func visit(t api.Term, yield func(n int) bool) bool {
	if t.Head == api.HMeta && !yield(t.N) {
		return false
	}
	for _, arg := range t.Args {
		if !visit(arg, yield) {
			return false
		}
	}
	return true
}

// A set is a set of metavariables, by their positions.
type set [api.MaxMetas]bool

func (s set) with(n int) set {
	s[n] = true
	return s
}

// hasCircle reports whether a metavariable needs itself over some steps.
func hasCircle(metas []api.Meta) bool {
	// Those on the way are needed by each other; those that are done lead to no circle.
	var onTheWay, done set
	var leadsBack func(n int) bool
	leadsBack = func(n int) bool {
		if onTheWay[n] {
			return true
		}
		if done[n] {
			return false
		}
		onTheWay[n] = true
		for t := range parts(metas[n : n+1]) {
			for needed := range within(t) {
				if leadsBack(needed) {
					return true
				}
			}
		}
		onTheWay[n], done[n] = false, true
		return false
	}
	for n := range metas {
		if leadsBack(n) {
			return true
		}
	}
	return false
}
