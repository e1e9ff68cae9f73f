package elab

import (
	"slices"

	"truss/api"
	"truss/scope"
	"truss/stop"
)

// firstUse returns the new metavariable that a capital name means, which is applied to variables, at a resolved type.
func (s *state) firstUse(p place, name string, written []api.Raw, a api.Term) head {
	variables := variablesOf(p, written)
	var types []api.Term
	for _, n := range variables {
		types = append(types, s.Resolved(scope.TypeOf(p.ctx, n)))
	}
	var ctx []api.Term
	for i, b := range types {
		ctx = append(ctx, onto(variables[:i], b))
	}
	s.Fresh(name, ctx, onto(variables, a))
	return metavariable(len(s.Metas) - 1)
}

// variablesOf returns the variables that raw expressions are, which must be different ones.
func variablesOf(p place, written []api.Raw) []int {
	var variables []int
	for _, r := range written {
		n, ok := p.find(r.Name)
		if r.Op != api.RName || !ok || slices.Contains(variables, int(n)) {
			stop.At(api.ErrOpen)
		}
		variables = append(variables, int(n))
	}
	return variables
}

// onto returns a type as it is meant where only these variables are in scope.
func onto(variables []int, a api.Term) api.Term {
	moved, ok := scope.Onto(variables, a)
	if !ok {
		stop.At(api.ErrScope)
	}
	return moved
}
