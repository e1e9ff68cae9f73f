package check_test

import (
	"slices"

	"truss/api"
	"truss/subst"
	"truss/term"
)

// A maker makes well typed terms that look like random ones, always the same.
type maker struct {
	seed  uint32
	sig   []api.Decl
	metas []api.Meta
}

func newMaker() *maker { return &maker{seed: 3, sig: whole(), metas: some()} }

func (m *maker) below(n int) int {
	m.seed = m.seed*1664525 + 1013904223
	return int(m.seed>>16) % n
}

// context makes a valid context of at most so many types.
func (m *maker) context(most int) []api.Term {
	var ctx []api.Term
	for range m.below(most + 1) {
		if a, ok := m.class(ctx, 3); ok {
			ctx = append(ctx, a)
		}
	}
	return ctx
}

// class makes a type in a context.
func (m *maker) class(ctx []api.Term, depth int) (api.Term, bool) {
	if depth > 1 && m.below(4) == 0 {
		domain, ok := m.class(ctx, depth-1)
		if !ok {
			return api.Term{}, false
		}
		body, ok := m.class(append(slices.Clip(ctx), domain), depth-1)
		return pi(domain, body), ok
	}
	families := []int{nat, plus, vec, tm, step}
	n := families[m.below(len(families))]
	spine, _, ok := m.spine(ctx, m.sig[n].Class, depth)
	return c(n, spine...), ok
}

// head makes a TApp in a context, with its type.
func (m *maker) head(ctx []api.Term, depth int) (object, a api.Term, ok bool) {
	var class api.Term
	var err api.Errno
	switch kind := m.below(4); {
	case kind == 0:
		object = app(api.HMeta, m.below(len(m.metas)))
		class = m.metas[object.N].Class
	case kind < 3 && len(ctx) > 0:
		object = v(m.below(len(ctx)))
		class, err = term.Shift(ctx[len(ctx)-1-object.N], object.N+1, 0)
	default:
		object = c(m.below(len(m.sig)))
		class = m.sig[object.N].Class
	}
	object.Args, a, ok = m.spine(ctx, class, depth)
	return object, a, ok && err == api.OK && a.Op == api.TApp
}

// spine makes objects for all TPis of a class, and returns what is left of it.
func (m *maker) spine(ctx []api.Term, class api.Term, depth int) ([]api.Term, api.Term, bool) {
	var spine []api.Term
	for class.Op == api.TPi {
		object, ok := m.object(ctx, class.Args[0], depth-1)
		if !ok {
			return nil, api.Term{}, false
		}
		left, err := subst.Instance(class, []api.Term{object})
		if err != api.OK {
			return nil, api.Term{}, false
		}
		spine = append(spine, object)
		class = left
	}
	return spine, class, true
}

// object makes an object of a type in a context, if it finds one.
func (m *maker) object(ctx []api.Term, a api.Term, depth int) (api.Term, bool) {
	if depth == 0 {
		return api.Term{}, false
	}
	if a.Op == api.TPi {
		body, ok := m.object(append(slices.Clip(ctx), a.Args[0]), a.Args[1], depth)
		return lam(body), ok
	}
	for range 12 {
		if object, found, ok := m.head(ctx, depth); ok && term.Same(found, a) {
			return object, true
		}
	}
	return api.Term{}, false
}

// spoiled returns a copy of a term in which one node is another one, or stands in another way.
func (m *maker) spoiled(t api.Term) api.Term {
	nodes, _, _ := term.Size(t)
	at := m.below(nodes)
	var copied func(t api.Term) api.Term
	copied = func(t api.Term) api.Term {
		here := at == 0
		at--
		var args []api.Term
		for _, arg := range t.Args {
			args = append(args, copied(arg))
		}
		t.Args = args
		if here {
			return m.changed(t)
		}
		return t
	}
	return copied(t)
}

// changed returns another node instead of one.
func (m *maker) changed(t api.Term) api.Term {
	others := []api.Term{typ(), lam(t), pi(c(nat), t), c(z), v(0), app(api.HMeta, 0), c(nat), c(vec, t)}
	if t.Op == api.TApp {
		others = append(others, app(t.Head, m.below(17), t.Args...), app(1+m.below(3), t.N, t.Args...), app(t.Head, t.N, append(slices.Clip(t.Args), c(z))...))
	}
	if t.Op == api.TApp && len(t.Args) > 0 {
		last := len(t.Args) - 1
		others = append(others, app(t.Head, t.N, t.Args[:last]...), app(t.Head, t.N, t.Args[1:]...))
	}
	if t.Op == api.TLam || t.Op == api.TPi {
		others = append(others, t.Args[0], t.Args[len(t.Args)-1])
	}
	return others[m.below(len(others))]
}
