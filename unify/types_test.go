package unify_test

import (
	"testing"

	"truss/api"
	"truss/build"
	"truss/unify"
)

func expectTypes(t *testing.T, metas []api.Meta, ctx []api.Term, a, b api.Term, want []api.Meta, left ...api.Equation) {
	t.Helper()
	p, err := unify.Types(whole(), metas, ctx, a, b)
	expectProblem(t, "Types", p, err, api.Problem{Metas: want, Left: left})
}

func expectNoTypes(t *testing.T, ctx []api.Term, a, b api.Term, want api.Errno) {
	t.Helper()
	p, err := unify.Types(whole(), some(), ctx, a, b)
	expectNothing(t, "Types", p, err, want)
}

// P9.2: types that are made equal

func TestTypes(t *testing.T) {
	metas := some()
	n := c(nat)
	expectTypes(t, metas, nil, n, n, metas)
	expectTypes(t, metas, nil, arrows(3), arrows(3), metas)
	expectTypes(t, metas, nil, c(vec, m(0)), c(vec, c(s, c(z))), with(metas, 0, c(s, c(z))))
	expectTypes(t, metas, nats(1), c(vec, m(1, v(0))), c(vec, v(0)), with(metas, 1, lam(v(0))))
	expectTypes(t, metas, nil, pi(n, c(vec, m(1, v(0)))), pi(n, c(vec, c(s, v(0)))), with(metas, 1, lam(c(s, v(0)))))
	expectTypes(t, metas, nil, to(c(vec, m(0)), c(vec, c(z)), n), to(c(vec, c(s, c(z))), c(vec, c(z)), n), with(metas, 0, c(s, c(z))))
	expectTypes(t, metas, nil, c(plus, c(z), m(0), c(z)), c(plus, c(z), c(s, c(z)), c(z)), with(metas, 0, c(s, c(z))))
	// The context of the bodies has the domain of the first type; of a class the objects of the first one are put in.
	left := []api.Equation{
		{Ctx: nats(1), A: m(1, c(z)), B: c(z), Class: n},
		{Ctx: []api.Term{n, c(vec, m(1, c(z)))}, A: m(1, c(z)), B: v(1), Class: n},
	}
	expectTypes(t, metas, nats(1), to(c(vec, m(1, c(z))), c(vec, m(1, c(z)))), to(c(vec, c(z)), c(vec, v(1))), metas, left...)
	object := api.Equation{A: m(1, c(z)), B: c(z), Class: c(vec, c(s, c(s, c(z))))}
	sig := append(whole(), decl("of", to(n, c(vec, c(s, v(0))), typ())))
	p, err := unify.Types(sig, metas, nil, c(len(whole()), c(s, c(z)), m(1, c(z))), c(len(whole()), c(s, c(z)), c(z)))
	expectProblem(t, "Types", p, err, api.Problem{Metas: metas, Left: list(object)})
	// An object constant is a head like all others.
	expectTypes(t, metas, nil, c(s, m(0)), c(s, c(z)), with(metas, 0, c(z)))
	// The list is resolved.
	unresolved := []api.Meta{solved(n, c(s, m(1))), solved(n, c(z))}
	expectTypes(t, unresolved, nil, n, n, []api.Meta{solved(n, c(s, c(z))), solved(n, c(z))})
	expectTypes(t, unresolved, nil, c(vec, m(0)), c(vec, c(s, c(z))), []api.Meta{solved(n, c(s, c(z))), solved(n, c(z))})
}

// P9.2: types that cannot be made equal

func TestTypesErrors(t *testing.T) {
	n := c(nat)
	for want, wrong := range map[api.Errno][][2]api.Term{
		api.ErrClash: {
			{n, c(tm)}, {n, arrows(1)}, {arrows(1), arrows(2)}, {to(n, c(tm)), arrows(1)}, {to(c(tm), n), arrows(1)}, {c(vec, c(z)), n},
			{v(0), v(0)}, {m(0), m(0)}, {m(0), n}, {v(0), n}, {m(0), arrows(1)}, {c(vec, c(z)), c(vec, c(s, c(z)))}, {c(99), c(98)},
			{pi(n, c(vec, c(z))), pi(n, c(vec, v(0)))},
		},
		api.ErrLevel: {
			{typ(), typ()}, {typ(), n}, {lam(n), lam(n)}, {lam(n), n}, {typ(), arrows(1)}, {to(n, typ()), to(n, typ())}, {to(lam(n), n), to(n, n)}, {lam(n), typ()},
		},
		api.ErrScope: {{c(99), c(99)}, {c(99, m(0)), c(99, c(z))}, {c(99), c(99, c(z))}, {c(vec, m(0)), c(vec, v(0))}},
		api.ErrShape: {{c(vec), c(vec, c(z))}, {c(nat, c(z)), c(nat, c(z))}, {c(vec, c(z), c(z)), c(vec, c(z), c(z))}, {c(vec, typ()), c(vec, c(z))}},
	} {
		for _, w := range wrong {
			expectNoTypes(t, nats(1), w[0], w[1], want)
			expectNoTypes(t, nats(1), w[1], w[0], want)
		}
	}
}

// P9.2: all equations are collected first

func TestTypesOrder(t *testing.T) {
	n := c(nat)
	clash, other := c(vec, c(z)), c(vec, c(s, c(z)))
	// What the equations come to is later than errors of collecting them, which come in the order of the types.
	expectNoTypes(t, nil, to(clash, n), to(other, n), api.ErrClash)
	expectNoTypes(t, nil, to(clash, typ()), to(other, n), api.ErrLevel)
	expectNoTypes(t, nil, to(clash, c(99), typ()), to(other, c(99), n), api.ErrScope)
	expectNoTypes(t, nil, to(clash, c(vec), typ()), to(other, c(vec, c(z)), n), api.ErrShape)
	expectNoTypes(t, nil, to(clash, n, typ()), to(other, c(tm), n), api.ErrClash)
	// Nothing is resolved meanwhile: a type that is a metavariable is none.
	metas := append(some(), solved(n, n), solved(n, c(z)))
	p, err := unify.Types(whole(), metas, nil, m(5), n)
	expectNothing(t, "Types", p, err, api.ErrClash)
	p, err = unify.Types(whole(), append(metas, solved(n, m(6, c(z)))), nil, n, c(tm))
	expectNothing(t, "Types", p, err, api.ErrClash)
	p, err = unify.Types(whole(), append(metas, solved(n, m(6, c(z)))), nil, clash, other)
	expectNothing(t, "Types", p, err, api.ErrShape)
	// The instance by the last object of a spine, too.
	sig := []api.Decl{decl("a", typ()), decl("f", to(c(0), c(0, copies(300, v(0))...)))}
	big := c(0, copies(2, c(0))...)
	p, err = unify.Types(sig, nil, nil, c(1, big), c(1, big))
	expectNothing(t, "Types", p, err, api.ErrFull)
}

// P9.2: limits

func TestTypesLimits(t *testing.T) {
	n := c(nat)
	metas := some()
	long := func(variables int) api.Term { return to(append(nats(variables), c(tm))...) }
	expectTypes(t, metas, nil, long(api.MaxCtx), long(api.MaxCtx), metas)
	expectNoTypes(t, nil, long(api.MaxCtx+1), long(api.MaxCtx+1), api.ErrFull)
	expectTypes(t, metas, nats(api.MaxCtx-1), arrows(1), arrows(1), metas)
	expectNoTypes(t, nats(api.MaxCtx), arrows(1), arrows(1), api.ErrFull)
	// The domains come first, then the context, then the bodies.
	expectNoTypes(t, nats(api.MaxCtx), arrows(1), to(c(tm), n), api.ErrClash)
	expectNoTypes(t, nats(api.MaxCtx), arrows(1), to(n, c(tm)), api.ErrFull)
	// Three equations for each plus.
	adds := func(count int, x api.Term) api.Term { return to(append(copies(count, c(plus, x, x, x)), n)...) }
	most := func(x api.Term) api.Term { return to(c(vec, x), c(vec, x), adds(26, x)) }
	stuck := m(1, c(z))
	p, err := unify.Types(whole(), metas, nil, most(stuck), most(c(z)))
	if err != api.OK || len(p.Left) != api.MaxLeft {
		t.Errorf("Types = %d equations, %d", len(p.Left), err)
	}
	p, err = unify.Types(whole(), metas, nil, adds(27, c(z)), adds(27, c(z)))
	expectNothing(t, "Types", p, err, api.ErrFull)
	// Errors of collecting come before that there are too many, and this before the first clash.
	p, err = unify.Types(whole(), metas, nil, to(adds(27, c(z)), n), to(adds(27, c(z)), c(tm)))
	expectNothing(t, "Types", p, err, api.ErrClash)
	p, err = unify.Types(whole(), metas, nil, adds(27, c(z)), adds(27, c(s, c(z))))
	expectNothing(t, "Types", p, err, api.ErrFull)
	far := []api.Term{c(vec, v(api.MaxN))}
	p, err = unify.Types(whole(), metas, far, n, n)
	expectProblem(t, "Types", p, err, api.Problem{Metas: metas})
	if !build.Apart(nil, terms(p)) {
		t.Error("Types: the result shares memory")
	}
}
