package elab

import (
	"truss/api"
	"truss/scope"
	"truss/shape"
	"truss/stop"
	"truss/subst"
	"truss/term"
)

// class returns the type or kind of a raw expression.
func (s *state) class(p place, r api.Raw) api.Term {
	switch r.Op {
	case api.RType:
		return api.Term{Op: api.TType}
	case api.RArrow:
		domain := s.domain(p, r.Args[0])
		return stop.Value(term.Arrow(domain, s.class(p, r.Args[1])))
	case api.RPi:
		if r.Args[0].Op == api.RHole {
			stop.At(api.ErrOpen)
		}
		domain := s.domain(p, r.Args[0])
		body := s.class(p.below(r.Name, domain), r.Args[1])
		return stop.Value(term.Join([]api.Term{domain}, body))
	case api.RName, api.RApp:
		return s.atomic(p, r)
	}
	stop.At(api.ErrLevel)
	return api.Term{}
}

// domain returns the type of a raw expression that must not be a kind.
func (s *state) domain(p place, r api.Raw) api.Term {
	a := s.class(p, r)
	if shape.IsKind(a) {
		stop.At(api.ErrLevel)
	}
	return a
}

// atomic returns the type that is a family with arguments.
func (s *state) atomic(p place, r api.Raw) api.Term {
	first, written := parts(r)
	if first.Op != api.RName {
		stop.At(api.ErrLevel)
	}
	family, ok := s.meaning(p, first.Name).(constant)
	if !ok || !shape.IsKind(s.Sig[family].Class) {
		stop.At(api.ErrLevel)
	}
	a, left := s.apply(p, family, written)
	if left.Op != api.TType {
		stop.At(api.ErrShape)
	}
	return scope.Proper(a)
}

// parts returns the first one of the innermost RApp, and what it is applied to.
func parts(r api.Raw) (api.Raw, []api.Raw) {
	if r.Op != api.RApp {
		return r, nil
	}
	first, written := parts(r.Args[0])
	return first, append(written, r.Args[1])
}

// object returns the object of a raw expression at a type.
func (s *state) object(p place, r api.Raw, a api.Term) api.Term {
	a = s.Resolved(a)
	switch r.Op {
	case api.RHole:
		return s.Fresh("", p.ctx, a)
	case api.RLam:
		return s.function(p, r, a)
	case api.RName, api.RApp:
		return s.application(p, r, a)
	}
	stop.At(api.ErrLevel)
	return api.Term{}
}

// function returns the TLam of an RLam at a type.
func (s *state) function(p place, r api.Raw, a api.Term) api.Term {
	if a.Op != api.TPi {
		stop.At(api.ErrShape)
	}
	if r.Args[0].Op != api.RHole {
		written := s.domain(p, r.Args[0])
		s.Demand(p.ctx, written, a.Args[0])
	}
	body := s.object(p.below(r.Name, a.Args[0]), r.Args[1], a.Args[1])
	return scope.Under(1, body)
}

// application returns the object that is a head with arguments, at a type.
func (s *state) application(p place, r api.Raw, a api.Term) api.Term {
	first, written := parts(r)
	if first.Op != api.RName {
		stop.At(api.ErrOpen)
	}
	h := s.meaning(p, first.Name)
	switch n := h.(type) {
	case metavariable:
		if n == unknown {
			h = s.firstUse(p, first.Name, written, a)
		}
	case constant:
		if shape.IsKind(s.Sig[n].Class) {
			stop.At(api.ErrLevel)
		}
	}
	t, left := s.apply(p, h, written)
	left, a = s.Resolved(left), s.Resolved(a)
	domains, _, _ := term.Split(left)
	if wanted, _, _ := term.Split(a); len(domains) != len(wanted) {
		stop.At(api.ErrShape)
	}
	object := expanded(t, domains)
	s.Demand(p.ctx, left, a)
	return object
}

// apply returns a head with its implicit arguments and those that are written, and what is left of its class.
func (s *state) apply(p place, h head, written []api.Raw) (api.Term, api.Term) {
	t, class := h.open(s, p)
	for _, r := range written {
		class = s.Resolved(class)
		if class.Op != api.TPi {
			stop.At(api.ErrShape)
		}
		object := s.object(p, r, class.Args[0])
		t.Args = append(t.Args, object)
		class = stop.Value(subst.Instance(class, []api.Term{object}))
	}
	return t, class
}

// expanded returns the TLams for variables of some types around a TApp with these variables put after its spine.
func expanded(t api.Term, domains []api.Term) api.Term {
	t = stop.Value(term.Shift(scope.Proper(t), len(domains), 0))
	for i, domain := range domains {
		simple := stop.Value(term.Simple(domain))
		t.Args = append(t.Args, stop.Value(subst.Long(api.HVar, len(domains)-1-i, simple)))
	}
	return scope.Under(len(domains), t)
}
