package elab

import (
	"slices"

	"truss/api"
	"truss/lexis"
	"truss/meta"
	"truss/scope"
	"truss/sign"
	"truss/stop"
)

// A place is where a raw expression stands: a context, and the names of its variables.
type place struct {
	ctx   []api.Term
	names []string
}

// below returns the place below a binder of a variable of this type.
func (p place) below(name string, a api.Term) place {
	return place{scope.Longer(p.ctx, a), append(slices.Clip(p.names), name)}
}

// find returns the innermost variable of a name.
func (p place) find(name string) (variable, bool) {
	for n := range p.names {
		if p.names[len(p.names)-1-n] == name {
			return variable(n), true
		}
	}
	return 0, false
}

// A head is what a name means: a variable, a metavariable or a constant, by its number.
type head interface {
	// open returns the head with its implicit arguments, and what is left of its class.
	open(s *state, p place) (api.Term, api.Term)
}

type variable int

func (n variable) open(_ *state, p place) (api.Term, api.Term) {
	return api.Term{Op: api.TApp, Head: api.HVar, N: int(n)}, scope.TypeOf(p.ctx, int(n))
}

type metavariable int

// unknown is what a capital name means before its first use.
const unknown metavariable = -1

func (n metavariable) open(s *state, _ place) (api.Term, api.Term) {
	return api.Term{Op: api.TApp, Head: api.HMeta, N: int(n)}, s.Metas[n].Class
}

type constant int

func (n constant) open(s *state, p place) (api.Term, api.Term) {
	metas, objects, left, err := meta.Open(s.Metas, p.ctx, s.Sig[n].Class, s.Sig[n].Implicit)
	stop.At(err)
	s.Metas = metas
	return api.Term{Op: api.TApp, Head: api.HCon, N: int(n), Args: objects}, left
}

// meaning returns what a name means.
func (s *state) meaning(p place, name string) head {
	if n, ok := p.find(name); ok {
		return n
	}
	if lexis.IsCapital(name) {
		return metavariable(slices.IndexFunc(s.Metas, func(m api.Meta) bool { return m.Name == name }))
	}
	n, err := sign.Find(s.Sig, name)
	if err != api.OK {
		stop.At(api.ErrName)
	}
	return constant(n)
}
