package unify

import (
	"slices"

	"truss/api"
	"truss/meta"
	"truss/scope"
	"truss/stop"
)

// binds is the case of a side that is a pattern; it applies if one side can be bound to the other one.
func (w *worker) binds(q api.Equation) bool {
	a, b := q.A, q.B
	// Of two metavariables, the one with the greater number comes first.
	if b.Head == api.HMeta && (a.Head != api.HMeta || b.N > a.N) {
		a, b = b, a
	}
	return w.bind(q, a, b) || w.bind(q, b, a)
}

// bind gives the metavariable of a side that is a pattern a value that makes it the other side, or takes a first step to
// this. It reports whether it has had an effect.
func (w *worker) bind(q api.Equation, side, other api.Term) bool {
	variables, ok := w.pattern(side)
	if !ok {
		return false
	}
	v := visitor{w, side.N, variables}
	switch v.visit(other, 0, true) {
	case obstacle:
		return false
	case progress:
		w.queue.pushFront(q)
		return true
	}
	if needed := stop.Value(meta.Order(w.metas, other)); slices.Contains(needed, side.N) {
		return false
	}
	// The visit has found no other variable.
	body, _ := scope.Onto(variables, other)
	w.solve(side.N, scope.Under(len(variables), body))
	return true
}

// A finding is what is met first in a side to which a pattern is to be bound.
type finding int

const (
	nothing  finding = iota
	obstacle         // what allows no effect
	progress         // a metavariable, which has been cut
)

// A visitor visits a side to which a pattern, of this metavariable and these variables, is to be bound.
type visitor struct {
	*worker
	meta      int
	variables []int
}

// visit returns what is met first in a term with so many binders around it. Rigidly: whatever the metavariables are, this
// term is a part of the side.
func (v visitor) visit(t api.Term, binders int, rigidly bool) finding {
	var found finding
	switch t.Head {
	case api.HVar:
		found = v.visitVariable(t, binders, rigidly)
	case api.HMeta:
		found = v.visitMeta(t, binders, rigidly)
		rigidly = false
	}
	if found != nothing {
		return found
	}
	for around, arg := range scope.Args(t, binders) {
		if found := v.visit(arg, around, rigidly); found != nothing {
			return found
		}
	}
	return nothing
}

func (v visitor) visitVariable(t api.Term, binders int, rigidly bool) finding {
	n, free := scope.Free(t, binders)
	if !free || slices.Contains(v.variables, n) {
		return nothing
	}
	if rigidly {
		stop.At(api.ErrScope)
	}
	return obstacle
}

func (v visitor) visitMeta(t api.Term, binders int, rigidly bool) finding {
	variables, isPattern := v.pattern(t)
	switch {
	case t.N == v.meta && rigidly && isPattern:
		// It is not the head of the whole side: two patterns of one metavariable are another case.
		stop.At(api.ErrClash)
	case t.N == v.meta:
		return obstacle
	case !rigidly || !isPattern:
		return nothing
	}
	allowed := func(n int) bool { return n < binders || slices.Contains(v.variables, n-binders) }
	if !slices.ContainsFunc(variables, func(n int) bool { return !allowed(n) }) {
		return nothing
	}
	if v.cut(t.N, kept(variables, allowed)) {
		return progress
	}
	return obstacle
}

// kept returns, for each of some numbers, whether it is to be kept.
func kept(numbers []int, keep func(n int) bool) []bool {
	var result []bool
	for _, n := range numbers {
		result = append(result, keep(n))
	}
	return result
}
