package unify

import (
	"slices"

	"truss/api"
	"truss/equate"
	"truss/meta"
	"truss/scope"
	"truss/stop"
	"truss/term"
)

// A worker works on equations. Errors end its work.
type worker struct {
	sig   []api.Decl
	metas []api.Meta
	// fixed is how many of the first metavariables never get a value.
	fixed int
	queue *list[api.Equation]
	left  *list[api.Equation]
}

// work works on the equations of a list, which is not too long, and returns what is known in the end.
func work(sig []api.Decl, metas []api.Meta, fixed int, l []api.Equation) (api.Problem, api.Errno) {
	return stop.Result(func() api.Problem {
		w := &worker{sig, stop.Value(meta.All(metas)), fixed, newList(l...), newList[api.Equation]()}
		w.empty()
		return w.problem()
	})
}

// empty takes equations out of the queue until there are none.
func (w *worker) empty() {
	table := cases()
	for steps := 0; w.queue.size > 0; steps++ {
		if steps == api.MaxSteps {
			stop.At(api.ErrFuel)
		}
		q := w.resolved(w.queue.takeFirst())
		for _, applies := range table {
			if applies(w, q) {
				break
			}
		}
	}
}

// problem returns the metavariables, and the equations that are left, resolved.
func (w *worker) problem() api.Problem {
	p := api.Problem{Metas: w.metas}
	for q := range w.left.all() {
		p.Left = append(p.Left, equate.Resolved(w.metas, q))
	}
	return p
}

// resolved returns an equation with its sides and its Class resolved.
func (w *worker) resolved(q api.Equation) api.Equation {
	for _, t := range []*api.Term{&q.A, &q.B, &q.Class} {
		// To resolve is to look at the whole list, which is too much where there is nothing to replace.
		if w.hasSolved(*t) {
			*t = stop.Value(meta.Resolve(w.metas, *t))
		}
	}
	return q
}

func (w *worker) hasSolved(t api.Term) bool {
	list, _ := term.Metas(t)
	return slices.ContainsFunc(list, func(n int) bool { return w.metas[n].Solved })
}

// solve gives a metavariable a value, with which those that are left are worked on again.
func (w *worker) solve(n int, value api.Term) {
	w.metas = stop.Value(meta.Solve(w.metas, n, value))
	w.queue.pushAll(w.left)
}

// pattern returns the variables of a pattern, if a term is one whose metavariable may get a value.
func (w *worker) pattern(t api.Term) ([]int, bool) {
	if t.Head == api.HMeta && t.N < w.fixed {
		return nil, false
	}
	return meta.Pattern(t)
}

// cases returns what may be done with an equation, in this order: each case reports whether it applies, and is done then.
func cases() []func(*worker, api.Equation) bool {
	return []func(*worker, api.Equation) bool{
		(*worker).isSame, (*worker).comparesFunctions, (*worker).hasNoHeads, (*worker).comparesSpines, (*worker).meets,
		(*worker).binds, (*worker).isLeft,
	}
}

func (w *worker) isSame(q api.Equation) bool {
	return term.Same(q.A, q.B)
}

// comparesFunctions is the case of a Class that is a TPi.
func (w *worker) comparesFunctions(q api.Equation) bool {
	if q.Class.Op != api.TPi {
		return false
	}
	if q.A.Op != api.TLam || q.B.Op != api.TLam {
		stop.At(api.ErrShape)
	}
	longer := scope.Longer(q.Ctx, q.Class.Args[0])
	w.queue.pushFront(api.Equation{Ctx: longer, A: q.A.Args[0], B: q.B.Args[0], Class: q.Class.Args[1]})
	return true
}

// hasNoHeads is the case of a side that is no TApp.
func (w *worker) hasNoHeads(q api.Equation) bool {
	if q.A.Op != api.TApp || q.B.Op != api.TApp {
		stop.At(api.ErrShape)
	}
	return false
}

// comparesSpines is the case of two heads that are no metavariables.
func (w *worker) comparesSpines(q api.Equation) bool {
	if q.A.Head == api.HMeta || q.B.Head == api.HMeta {
		return false
	}
	if q.A.Head != q.B.Head || q.A.N != q.B.N {
		stop.At(api.ErrClash)
	}
	list := equate.Spines(w.sig, q.Ctx, q.A, q.B)
	if w.queue.size+w.left.size+len(list) > api.MaxLeft {
		stop.At(api.ErrFull)
	}
	w.queue.pushFront(list...)
	return true
}

// isLeft is the last case, which always applies.
func (w *worker) isLeft(q api.Equation) bool {
	w.left.pushBack(q)
	return true
}
