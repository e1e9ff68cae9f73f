package elab

import (
	"truss/api"
	"truss/equate"
	"truss/meta"
	"truss/stop"
	"truss/unify"
)

// A state is what is known of what is omitted. Its methods are the judgements; errors end the reconstruction.
type state struct {
	sig   []api.Decl
	metas []api.Meta
	left  []api.Equation
}

// reconstruct returns what a judgement comes to, and the state after it, all resolved.
func reconstruct(sig []api.Decl, p api.Problem, judge func(*state) api.Term) (api.Problem, api.Term, api.Errno) {
	var result api.Term
	after, err := stop.Result(func() api.Problem {
		s := &state{sig, p.Metas, p.Left}
		t := judge(s)
		after := s.problem()
		result = s.resolved(t)
		return after
	})
	return after, result, err
}

// problem returns the state, resolved.
func (s *state) problem() api.Problem {
	s.metas = stop.Value(meta.All(s.metas))
	p := api.Problem{Metas: s.metas}
	for _, q := range s.left {
		p.Left = append(p.Left, equate.Resolved(s.metas, q))
	}
	return p
}

func (s *state) resolved(t api.Term) api.Term {
	return stop.Value(meta.Resolve(s.metas, t))
}

// fresh returns the object of a new metavariable of a type in a context.
func (s *state) fresh(name string, ctx []api.Term, a api.Term) api.Term {
	metas, object, err := meta.Fresh(s.metas, name, ctx, a)
	stop.At(err)
	s.metas = metas
	return object
}

// demand makes two types equal in a context, as far as this can be decided.
func (s *state) demand(ctx []api.Term, a, b api.Term) {
	var queue []api.Equation
	queue = append(queue, s.left...)
	queue = append(queue, equate.Types(s.sig, ctx, a, b)...)
	if len(queue) > api.MaxLeft {
		stop.At(api.ErrFull)
	}
	p := stop.Value(unify.Unify(s.sig, s.metas, queue))
	s.metas, s.left = p.Metas, p.Left
}

// close ends a whole expression, in which nothing may be undecided.
func (s *state) close() {
	if len(s.left) > 0 {
		stop.At(api.ErrOpen)
	}
}
