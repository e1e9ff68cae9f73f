package search

import (
	"iter"
	"slices"

	"truss/api"
	"truss/known"
	"truss/meta"
	"truss/scope"
	"truss/shape"
	"truss/stop"
	"truss/subst"
	"truss/term"
)

// A searcher derives goals.
type searcher struct {
	// count counts a try.
	count func()
	// cut is whether a goal was deeper than allowed.
	cut bool
}

// A result is the state in which a goal is derived, and an object of it.
type result struct {
	known.State
	object api.Term
}

// answers returns the first solutions of a goal, as many as most.
func answers(start known.State, ctx []api.Term, goal api.Term, depth, most int) api.Answers {
	s := &searcher{count: counter(api.MaxTries)}
	var found api.Answers
	for r := range s.derive(start, ctx, goal, depth) {
		if len(r.Left) > 0 {
			found.Stuck++
			continue
		}
		found.List = append(found.List, r.solution())
		if len(found.List) == most {
			break
		}
	}
	found.Cut = s.cut
	return found
}

// counter returns what counts up to a limit.
func counter(limit int) func() {
	count := 0
	return func() {
		if count == limit {
			stop.At(api.ErrFuel)
		}
		count++
	}
}

// solution returns a result that leaves no equation.
func (r result) solution() api.Found {
	metas := stop.Value(meta.All(r.Metas))
	return api.Found{Metas: metas, Proof: r.Resolved(scope.Proper(r.object))}
}

// derive visits the results of a goal in a context.
func (s *searcher) derive(state known.State, ctx []api.Term, goal api.Term, depth int) iter.Seq[result] {
	return func(yield func(result) bool) {
		a := state.Resolved(goal)
		family, hasTarget := shape.Target(state.Sig, a)
		switch {
		case a.Op == api.TPi:
			s.functions(state, ctx, a, depth)(yield)
		case hasTarget && depth == 0:
			s.cut = true
		case hasTarget:
			s.applications(state, ctx, family, a, depth)(yield)
		}
	}
}

// functions visits the results of a TPi: those of its body, with a TLam around the object.
func (s *searcher) functions(state known.State, ctx []api.Term, a api.Term, depth int) iter.Seq[result] {
	return func(yield func(result) bool) {
		for r := range s.derive(state, scope.Longer(ctx, a.Args[0]), a.Args[1], depth) {
			r.object = api.Term{Op: api.TLam, Args: []api.Term{r.object}}
			if !yield(r) {
				return
			}
		}
	}
}

// applications visits the results of a type that is a family with arguments: those of each head.
func (s *searcher) applications(state known.State, ctx []api.Term, family int, a api.Term, depth int) iter.Seq[result] {
	return func(yield func(result) bool) {
		for head := range heads(state.Sig, ctx, family) {
			for r := range s.try(state, ctx, head, a, depth) {
				if !yield(r) {
					return
				}
			}
		}
	}
}

// try visits the results of a goal whose objects begin with a head.
func (s *searcher) try(state known.State, ctx []api.Term, head, goal api.Term, depth int) iter.Seq[result] {
	return func(yield func(result) bool) {
		s.count()
		next := state
		object, premises, left := opened(&next, ctx, head)
		after, err := stop.Result(func() known.State {
			next.Demand(ctx, left, goal)
			return next
		})
		switch err {
		case api.ErrClash, api.ErrScope, api.ErrShape:
			return
		}
		stop.At(err)
		s.prove(result{after, object}, ctx, premises, depth-1)(yield)
	}
}

// A premise is an argument that is still to be derived.
type premise struct {
	at   int
	goal api.Term
}

// opened returns a head with new metavariables as its dependent arguments, and room for the objects of its premises; these; and
// what is left of its class.
func opened(state *known.State, ctx []api.Term, head api.Term) (api.Term, []premise, api.Term) {
	left := scope.ClassOf(state.Sig, ctx, head)
	clause := shape.Clause(left)
	var premises []premise
	for at := 0; left.Op == api.TPi; at++ {
		var object api.Term
		if slices.Contains(clause.Premises, at) {
			premises = append(premises, premise{at, left.Args[0]})
			left = stop.Value(term.Shift(left.Args[1], -1, 0))
		} else {
			object = state.Fresh("", ctx, left.Args[0])
			left = stop.Value(subst.Instance(left, []api.Term{object}))
		}
		head.Args = append(head.Args, object)
	}
	return head, premises, left
}

// prove visits the results in which the premises are derived, from the last one to the first one, and their objects are in the
// spine.
func (s *searcher) prove(r result, ctx []api.Term, premises []premise, depth int) iter.Seq[result] {
	return func(yield func(result) bool) {
		last := len(premises) - 1
		if last < 0 {
			yield(r)
			return
		}
		for next := range s.derive(r.State, ctx, premises[last].goal, depth) {
			spine := slices.Clone(r.object.Args)
			spine[premises[last].at] = next.object
			next.object = api.Term{Op: r.object.Op, Head: r.object.Head, N: r.object.N, Args: spine}
			for all := range s.prove(next, ctx, premises[:last], depth) {
				if !yield(all) {
					return
				}
			}
		}
	}
}
