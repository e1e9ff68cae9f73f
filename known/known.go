// Package known is about what is known of what is not written: a list of metavariables, and equations that are left. Errors
// end the computation (package stop).
package known

import (
	"truss/api"
	"truss/equate"
	"truss/meta"
	"truss/stop"
	"truss/unify"
)

// A State is metavariables, and equations that are left. Its methods put new lists in place of those that it has: a copy of a
// State stays as it is.
type State struct {
	Sig   []api.Decl
	Metas []api.Meta
	Left  []api.Equation
}

// Problem returns the metavariables, and the equations that are left, all resolved.
func (s *State) Problem() api.Problem {
	s.Metas = stop.Value(meta.All(s.Metas))
	p := api.Problem{Metas: s.Metas}
	for _, q := range s.Left {
		p.Left = append(p.Left, equate.Resolved(s.Metas, q))
	}
	return p
}

// Resolved returns a term in which every solved metavariable is replaced by its value.
func (s *State) Resolved(t api.Term) api.Term {
	return stop.Value(meta.Resolve(s.Metas, t))
}

// Fresh returns the object of a new metavariable of a type in a context.
func (s *State) Fresh(name string, ctx []api.Term, a api.Term) api.Term {
	metas, object, err := meta.Fresh(s.Metas, name, ctx, a)
	stop.At(err)
	s.Metas = metas
	return object
}

// Demand makes two types equal in a context, as far as this can be decided.
func (s *State) Demand(ctx []api.Term, a, b api.Term) {
	var queue []api.Equation
	queue = append(queue, s.Left...)
	queue = append(queue, equate.Types(s.Sig, ctx, a, b)...)
	if len(queue) > api.MaxLeft {
		stop.At(api.ErrFull)
	}
	p := stop.Value(unify.Unify(s.Sig, s.Metas, queue))
	s.Metas, s.Left = p.Metas, p.Left
}
