// Package maker makes well typed terms, for the tests of all layers from check on.
package maker

import (
	"slices"

	"truss/api"
	"truss/build"
	"truss/subst"
	"truss/term"
)

// A Maker makes well typed terms that look like random ones, always the same.
type Maker struct {
	seed  uint32
	Sig   []api.Decl
	Metas []api.Meta
}

// New returns a maker for the signature build.Whole, with metavariables whose Classes are types.
func New(metas []api.Meta) *Maker { return &Maker{seed: 3, Sig: build.Whole(), Metas: metas} }

// Below returns a number from 0 to n - 1.
func (m *Maker) Below(n int) int {
	m.seed = m.seed*1664525 + 1013904223
	return int(m.seed>>16) % n
}

// Context makes a valid context of at most so many types.
func (m *Maker) Context(most int) []api.Term {
	var ctx []api.Term
	for range m.Below(most + 1) {
		if a, ok := m.Class(ctx, 3); ok {
			ctx = append(ctx, a)
		}
	}
	return ctx
}

// Class makes a type in a context.
func (m *Maker) Class(ctx []api.Term, depth int) (api.Term, bool) {
	if depth > 1 && m.Below(4) == 0 {
		domain, ok := m.Class(ctx, depth-1)
		if !ok {
			return api.Term{}, false
		}
		body, ok := m.Class(append(slices.Clip(ctx), domain), depth-1)
		return build.Pi(domain, body), ok
	}
	families := []int{build.Nat, build.Plus, build.Vec, build.Tm, build.Step}
	n := families[m.Below(len(families))]
	spine, _, ok := m.spine(ctx, m.Sig[n].Class, depth)
	return build.Con(n, spine...), ok
}

// Head makes a TApp in a context, with its type.
func (m *Maker) Head(ctx []api.Term, depth int) (object, a api.Term, ok bool) {
	var class api.Term
	var err api.Errno
	switch kind := m.Below(4); {
	case kind == 0 && len(m.Metas) > 0:
		object = build.Meta(m.Below(len(m.Metas)))
		class = m.Metas[object.N].Class
	case kind < 3 && len(ctx) > 0:
		object = build.Var(m.Below(len(ctx)))
		class, err = term.Shift(ctx[len(ctx)-1-object.N], object.N+1, 0)
	default:
		object = build.Con(m.Below(len(m.Sig)))
		class = m.Sig[object.N].Class
	}
	object.Args, a, ok = m.spine(ctx, class, depth)
	return object, a, ok && err == api.OK && a.Op == api.TApp
}

// spine makes objects for all TPis of a class, and returns what is left of it.
func (m *Maker) spine(ctx []api.Term, class api.Term, depth int) ([]api.Term, api.Term, bool) {
	var spine []api.Term
	for class.Op == api.TPi {
		object, ok := m.Object(ctx, class.Args[0], depth-1)
		if !ok {
			return nil, api.Term{}, false
		}
		left, err := subst.Instance(class, []api.Term{object})
		if err != api.OK {
			return nil, api.Term{}, false
		}
		spine = append(spine, object)
		class = left
	}
	return spine, class, true
}

// Object makes an object of a type in a context, if it finds one.
func (m *Maker) Object(ctx []api.Term, a api.Term, depth int) (api.Term, bool) {
	if depth == 0 {
		return api.Term{}, false
	}
	if a.Op == api.TPi {
		body, ok := m.Object(append(slices.Clip(ctx), a.Args[0]), a.Args[1], depth)
		return build.Lam(body), ok
	}
	for range 12 {
		if object, found, ok := m.Head(ctx, depth); ok && term.Same(found, a) {
			return object, true
		}
	}
	return api.Term{}, false
}

// Spoiled returns a copy of a term in which one node is another one, or stands in another way.
func (m *Maker) Spoiled(t api.Term) api.Term {
	nodes, _, _ := term.Size(t)
	at := m.Below(nodes)
	var copied func(t api.Term) api.Term
	copied = func(t api.Term) api.Term {
		here := at == 0
		at--
		var args []api.Term
		for _, arg := range t.Args {
			args = append(args, copied(arg))
		}
		t.Args = args
		if here {
			return m.changed(t)
		}
		return t
	}
	return copied(t)
}

// changed returns another node instead of one.
func (m *Maker) changed(t api.Term) api.Term {
	nat, z := build.Con(build.Nat), build.Con(build.Z)
	others := []api.Term{build.Type(), build.Lam(t), build.Pi(nat, t), z, build.Var(0), build.Meta(0), nat, build.Con(build.Vec, t)}
	if t.Op == api.TApp {
		longer := append(slices.Clip(t.Args), z)
		others = append(others, build.App(t.Head, m.Below(17), t.Args...), build.App(1+m.Below(3), t.N, t.Args...), build.App(t.Head, t.N, longer...))
	}
	if t.Op == api.TApp && len(t.Args) > 0 {
		last := len(t.Args) - 1
		others = append(others, build.App(t.Head, t.N, t.Args[:last]...), build.App(t.Head, t.N, t.Args[1:]...))
	}
	if t.Op == api.TLam || t.Op == api.TPi {
		others = append(others, t.Args[0], t.Args[len(t.Args)-1])
	}
	return others[m.Below(len(others))]
}
