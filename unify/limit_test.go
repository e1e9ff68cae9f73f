package unify_test

import (
	"slices"
	"testing"

	"truss/api"
	"truss/build"
	"truss/subst"
	"truss/unify"
)

// expectArg checks that all functions have ErrArg for these arguments, whatever the others are.
func expectArg(t *testing.T, sig []api.Decl, metas []api.Meta, l []api.Equation) {
	t.Helper()
	clash := eq(0, c(z), c(s, c(z)))
	for _, l := range [][]api.Equation{l, append(list(clash), l...)} {
		p, err := unify.Unify(sig, metas, l)
		expectNothing(t, "Unify", p, err, api.ErrArg)
		p, err = unify.Match(sig, metas, 0, l)
		expectNothing(t, "Match", p, err, api.ErrArg)
		same, err := unify.Solves(sig, metas, l)
		if same || err != api.ErrArg {
			t.Errorf("Solves = %v, %d", same, err)
		}
	}
	if len(l) == 1 {
		p, err := unify.Types(sig, metas, l[0].Ctx, l[0].A, l[0].B)
		expectNothing(t, "Types", p, err, api.ErrArg)
		p, err = unify.Types(sig, metas, l[0].Ctx, l[0].B, l[0].A)
		expectNothing(t, "Types", p, err, api.ErrArg)
	}
}

// P9.1 to P9.4: ErrArg of all functions, before all other errors

func TestArguments(t *testing.T) {
	right := eq(1, c(z), v(0))
	for _, sig := range [][]api.Decl{
		append(whole(), decl("s", c(nat))), append(whole(), decl("k", c(99))), append(whole(), decl("k", m(0))), build.Flat(api.MaxDecls + 1),
	} {
		expectArg(t, sig, some(), list(right))
	}
	long := slices.Repeat(some()[:1], api.MaxMetas+1)
	for _, metas := range [][]api.Meta{
		long, {hole(c(vec, m(0)))}, {hole(v(0))}, {hole(typ())}, {named("a", c(nat))}, {named("A", c(nat)), named("A", c(nat))},
		{{Class: c(nat), Value: c(z)}}, {solved(c(nat), m(1))}, {solved(c(nat), c(s, m(0)))},
	} {
		expectArg(t, whole(), metas, list(right))
		same, err := unify.Rename(metas, c(z), c(z))
		if same || err != api.ErrArg {
			t.Errorf("Rename of %v = %v, %d", metas, same, err)
		}
	}
	expectArg(t, whole(), some(), slices.Repeat(list(right), api.MaxLeft+1))
	expectArg(t, whole(), some(), list(eq(api.MaxCtx+1, c(z), v(0))))
	expectArg(t, whole(), some(), list(eq(100000, c(z), v(0))))
	for _, x := range append(build.Improper(), m(5), c(s, m(9)), lam(m(1, m(5)))) {
		for _, q := range []api.Equation{
			{Ctx: nats(1), A: x, B: v(0), Class: c(nat)}, {Ctx: nats(1), A: v(0), B: x, Class: c(nat)}, {Ctx: []api.Term{c(nat), x}, A: v(0), B: v(0), Class: c(nat)},
			{Ctx: []api.Term{x, c(nat)}, A: v(0), B: v(0), Class: c(nat)},
		} {
			expectArg(t, whole(), some(), list(q))
		}
		_, err := unify.Unify(whole(), some(), list(api.Equation{Ctx: nats(1), A: v(0), B: v(0), Class: x}))
		expect(t, "Unify", err, api.ErrArg)
		for _, pair := range [][2]api.Term{{x, c(z)}, {c(z), x}, {x, x}} {
			same, err := unify.Rename(some(), pair[0], pair[1])
			if same || err != api.ErrArg {
				t.Errorf("Rename = %v, %d", same, err)
			}
		}
	}
	for _, n := range []int{-1, 6, 100000} {
		p, err := unify.Match(whole(), some(), n, nil)
		expectNothing(t, "Match", p, err, api.ErrArg)
	}
}

// P9.1: MaxLeft

func TestMaxLeft(t *testing.T) {
	metas := some()
	waits := eq(0, m(1, c(z)), c(z))
	// So many equations are allowed, and all may be left.
	most := slices.Repeat(list(waits), api.MaxLeft)
	expectUnified(t, metas, most, metas, most...)
	// One of them may become one, but not two.
	q := eq(0, c(s, m(1, c(z))), c(s, c(z)))
	expectUnified(t, metas, append(most[:api.MaxLeft-1:api.MaxLeft-1], q), metas, most...)
	q = eq(0, lam(m(1, c(z))), lam(c(z)))
	q.Class = arrows(1)
	inner := eq(1, m(1, c(z)), c(z))
	expectUnified(t, metas, append(list(q), most[1:]...), metas, append(list(inner), most[1:]...)...)
	three := eq(0, c(plus, m(1, c(z)), c(z), c(z)), c(plus, c(z), c(z), c(z)))
	// Those in the queue count, and those that are left; the one that was taken out does not.
	for _, before := range []int{0, 1, 40, 77} {
		for _, all := range []int{77, 78} {
			l := append(most[:before:before], three)
			l = append(l, most[before:all]...)
			if all == 77 {
				expectUnified(t, metas, l, metas, most[:78]...)
			} else {
				expectFailed(t, metas, l, api.ErrFull)
			}
		}
	}
	// The class is visited before they are counted.
	sig := append(whole(), decl("f", arrows(1)))
	wrong := eq(0, c(len(whole()), c(z), c(z)), c(len(whole()), c(z), m(0)))
	_, err := unify.Unify(sig, metas, append(list(wrong), most[1:]...))
	expect(t, "Unify", err, api.ErrShape)
}

// P9.1: MaxCtx

func TestMaxCtx(t *testing.T) {
	metas := some()
	fun := func(variables int) api.Equation {
		return api.Equation{Ctx: nats(variables), A: lam(m(0)), B: lam(c(z)), Class: arrows(1)}
	}
	expectUnified(t, metas, list(fun(api.MaxCtx-1)), with(metas, 0, c(z)))
	expectFailed(t, metas, list(fun(api.MaxCtx)), api.ErrFull)
	q := eq(api.MaxCtx, m(1, v(api.MaxCtx-1)), v(api.MaxCtx-1))
	expectUnified(t, metas, list(q), with(metas, 1, lam(v(0))))
	long := api.Equation{A: lams(api.MaxCtx, m(0)), B: lams(api.MaxCtx, c(z)), Class: arrows(api.MaxCtx)}
	expectUnified(t, metas, list(long), with(metas, 0, c(z)))
	long = api.Equation{A: lams(api.MaxCtx+1, m(0)), B: lams(api.MaxCtx+1, c(z)), Class: arrows(api.MaxCtx + 1)}
	expectFailed(t, metas, list(long), api.ErrFull)
	// The forms of the sides come first.
	q = fun(api.MaxCtx)
	q.B = c(z)
	expectFailed(t, metas, list(q), api.ErrShape)
}

// P9.1: MaxMetas

func TestMaxMetas(t *testing.T) {
	most := slices.Repeat([]api.Meta{hole(arrows(2))}, api.MaxMetas)
	nearly := most[:api.MaxMetas-1]
	cut, meet := eq(2, m(0, v(0), v(0)), c(s, m(1, v(1), v(0)))), eq(2, m(0, v(0), v(1)), m(0, v(1), v(0)))
	expectUnified(t, most, list(cut), most, cut)
	cut = eq(3, m(0, v(0), v(2)), c(s, m(1, v(1), v(0))))
	expectFailed(t, most, list(cut), api.ErrFull)
	want := append(with(with(nearly, 1, cutAt(2, 79, 0)), 0, lams(2, c(s, m(79, v(1))))), hole(arrows(1)))
	expectUnified(t, nearly, list(cut), want)
	expectFailed(t, most, list(meet), api.ErrFull)
	expectUnified(t, nearly, list(meet), append(with(nearly, 0, cutAt(2, 79)), hole(c(nat))))
	expectFailed(t, nearly, list(meet, cut), api.ErrFull)
	// Where there is no effect, there is no new one.
	depends := hole(to(c(nat), c(vec, v(0))))
	fixed := append(slices.Clone(nearly), depends)
	for _, q := range []api.Equation{eq(2, m(79, v(0)), m(79, v(1))), eq(2, m(0, v(0), v(0)), m(79, v(1))), eq(3, m(0, v(0), v(2)), c(s, m(79, v(1))))} {
		expectUnified(t, fixed, list(q), fixed, q)
	}
}

// chain returns so many levels of a constant with 14 arguments around a leaf, which is the last one of them.
func chain(levels int, leaf api.Term) api.Term {
	for range levels {
		leaf = c(len(whole()), append(copies(13, c(z)), leaf)...)
	}
	return leaf
}

// P9.1: MaxSteps

func TestMaxSteps(t *testing.T) {
	sig := append(whole(), decl("f", arrows(14)))
	metas := some()
	// An equation of so many levels is one of 14 times as many steps and one more.
	levels := func(count int) api.Equation { return eq(0, chain(count, m(1, c(z))), chain(count, c(z))) }
	same := eq(0, c(z), c(z))
	// 37 * 533 + 267 + 12 steps.
	l := slices.Repeat(list(levels(38)), 37)
	l = append(append(l, levels(19)), slices.Repeat(list(same), 12)...)
	left := slices.Repeat(list(eq(0, m(1, c(z)), c(z))), 38)
	p, err := unify.Unify(sig, metas, l)
	expectProblem(t, "Unify", p, err, api.Problem{Metas: metas, Left: left})
	p, err = unify.Unify(sig, metas, append(l, same))
	expectNothing(t, "Unify", p, err, api.ErrFuel)
	p, err = unify.Match(sig, metas, 5, append(list(same), l...))
	expectNothing(t, "Match", p, err, api.ErrFuel)
	// An error of the last step comes first, and one of the step after it does not.
	clash := eq(0, c(z), v(0))
	_, err = unify.Unify(sig, metas, append(l[:len(l)-1:len(l)-1], clash))
	expect(t, "Unify", err, api.ErrClash)
	_, err = unify.Unify(sig, metas, append(l[:len(l):len(l)], clash))
	expect(t, "Unify", err, api.ErrFuel)
}

// P9.1: a value that is not proper

func TestFullValues(t *testing.T) {
	metas := append(some(), hole(to(append(nats(39), c(nat))...)))
	flat := func(nodes int) api.Term { return c(s, copies(nodes-1, c(z))...) }
	deep := func(depth int) api.Term { return c(s, lams(depth-2, c(z))) }
	for _, x := range []struct {
		side, right, wrong api.Term
	}{
		{m(0), flat(600), typ()},
		{m(1, v(0)), flat(599), flat(600)},
		{m(2, v(1), v(0)), flat(598), flat(599)},
		{m(0), deep(40), typ()},
		{m(1, v(0)), deep(39), deep(40)},
		{m(3, v(0), v(1), v(2)), deep(37), deep(38)},
		{m(3, v(0), v(1), v(2)), c(s, lams(35, m(0))), c(s, lams(36, m(0)))},
	} {
		expectBoth(t, metas, eq(3, x.side, x.right), with(metas, x.side.N, lams(len(x.side.Args), x.right)))
		if x.wrong.Op != api.TType {
			expectBothFailed(t, metas, eq(3, x.side, x.wrong), api.ErrFull)
		}
	}
	// What is met comes before it.
	expectBothFailed(t, metas, eq(3, m(1, v(0)), c(s, append(copies(598, c(z)), v(1))...)), api.ErrScope)
	// A pattern of so many variables.
	variables := func(count int) api.Term {
		var spine []api.Term
		for n := range count {
			spine = append(spine, v(n))
		}
		return m(5, spine...)
	}
	expectBoth(t, metas, eq(0, variables(39), c(z)), with(metas, 5, lams(39, c(z))))
	expectBothFailed(t, metas, eq(0, variables(40), c(z)), api.ErrFull)
	expectBothFailed(t, metas, eq(0, variables(599), c(z)), api.ErrFull)
}

// P9.1: a value by which something is cut that is not proper

func TestFullCut(t *testing.T) {
	for args, want := range map[int]api.Errno{35: api.OK, 36: api.ErrFull} {
		fun := arrows(args)
		simple := api.Simple{Args: make([]api.Simple, args)}
		f, err := subst.Long(api.HVar, 1, simple)
		expect(t, "Long", err, api.OK)
		metas := []api.Meta{hole(to(fun, c(nat))), hole(to(fun, c(nat), c(nat)))}
		q := api.Equation{Ctx: []api.Term{fun, c(nat)}, A: m(0, f), B: c(s, m(1, f, v(0))), Class: c(nat)}
		_, err = unify.Unify(whole(), metas, list(q))
		expect(t, "Unify", err, want)
	}
}

// P9.1: errors of resolving

func TestWrongValues(t *testing.T) {
	n := c(nat)
	full := c(s, copies(2, m(0))...)
	metas := []api.Meta{solved(n, c(s, copies(299, c(z))...)), hole(n), hole(arrows(1)), solved(to(n, n), c(z)), hole(n)}
	// A side, the Class, and in the end the context.
	expectFailed(t, metas, list(eq(0, m(3, c(z)), m(1))), api.ErrShape)
	expectFailed(t, metas, list(eq(0, m(1), m(3, c(z)))), api.ErrShape)
	expectFailed(t, metas, list(eq(0, m(1), full), eq(0, m(1), m(3, c(z)))), api.ErrFull)
	expectFailed(t, metas, list(eq(0, full, m(3, c(z)))), api.ErrFull)
	expectFailed(t, metas, list(eq(0, m(3, c(z)), full)), api.ErrShape)
	class := api.Equation{A: c(z), B: c(s, c(z)), Class: c(vec, m(3, c(z)))}
	expectFailed(t, metas, list(class), api.ErrShape)
	left := eq(0, m(2, c(z)), c(z))
	left.Ctx = []api.Term{c(vec, m(3, c(z))), c(vec, full)}
	expectFailed(t, metas, list(left), api.ErrShape)
	left.Ctx = []api.Term{c(vec, full), c(vec, m(3, c(z)))}
	expectFailed(t, metas, list(left), api.ErrFull)
	left.A = c(z)
	expectUnified(t, metas, list(left), metas)
	// The list, at first and after each value.
	expectFailed(t, append(metas, solved(n, m(3, c(z)))), list(eq(0, c(z), c(s, c(z)))), api.ErrShape)
	expectFailed(t, append(metas, hole(c(vec, full))), nil, api.ErrFull)
	expectFailed(t, append(metas, hole(c(vec, m(1, c(z))))), list(eq(0, m(1), c(z)), eq(0, c(z), c(s, c(z)))), api.ErrShape)
	// Of a pattern with more variables than the Class has TPis.
	long := append(metas, hole(to(n, n)))
	expectFailed(t, long, list(eq(2, m(5, v(0), v(1)), c(z)), eq(2, m(5, v(0), v(1)), c(z))), api.ErrShape)
	p, err := unify.Unify(whole(), long, list(eq(2, m(5, v(0), v(1)), c(z))))
	expectProblem(t, "Unify", p, err, api.Problem{Metas: with(long, 5, lams(2, c(z)))})
}
