package elab_test

import (
	"slices"
	"strconv"
	"testing"

	"truss/api"
	"truss/build"
	"truss/elab"
)

// expectArg checks that Type and Object have ErrArg in a setting, for a raw expression that is wrong in another way, too.
func (x setting) expectArg(t *testing.T, r api.Raw, a api.Term) {
	t.Helper()
	p, got, err := elab.Object(x.sig, x.problem, x.ctx, x.names, r, a)
	expectTerm(t, "Object", got, err, api.Term{}, api.ErrArg)
	if len(p.Metas) > 0 || len(p.Left) > 0 {
		t.Errorf("Object: the state is %v", p)
	}
}

func (x setting) expectArgs(t *testing.T, r api.Raw) {
	t.Helper()
	x.expectArg(t, r, c(nat))
	p, got, err := elab.Type(x.sig, x.problem, x.ctx, x.names, r)
	expectTerm(t, "Type", got, err, api.Term{}, api.ErrArg)
	if len(p.Metas) > 0 || len(p.Left) > 0 {
		t.Errorf("Type: the state is %v", p)
	}
}

// P10.1 to P10.3: ErrArg of all functions, before all other errors

func TestArguments(t *testing.T) {
	k := raw(t, "k")
	right := numbers("a")
	for _, sig := range unformed() {
		x := right
		x.sig = sig
		x.expectArgs(t, k)
		_, _, err := elab.Class(sig, k)
		expect(t, "Class", err, api.ErrArg)
		_, err = elab.Declare(sig, "z", k)
		expect(t, "Declare", err, api.ErrArg)
		_, _, err = elab.Query(sig, k)
		expect(t, "Query", err, api.ErrArg)
	}
	for _, r := range malformed() {
		right.expectArgs(t, r)
		got, n, err := elab.Class(whole(), r)
		expectTerm(t, "Class", got, err, api.Term{}, api.ErrArg)
		longer, err := elab.Declare(whole(), "k", r)
		if n != 0 || err != api.ErrArg || len(longer) > 0 {
			t.Errorf("Declare = %v, %d", longer, err)
		}
	}
	for _, metas := range [][]api.Meta{
		slices.Repeat([]api.Meta{hole(c(nat))}, api.MaxMetas+1), {hole(v(0))}, {hole(m(0))}, {named("a", c(nat))}, {solved(c(nat), c(s, m(0)))}, {{Class: c(nat), Value: c(z)}},
	} {
		right.with(metas...).expectArgs(t, k)
	}
	long := setting{sig: whole(), ctx: nats(api.MaxCtx + 1), names: make([]string, api.MaxCtx+1)}
	long.expectArgs(t, k)
	for _, names := range [][]string{nil, {"a", "b"}, make([]string, 100000)} {
		x := right
		x.names = names
		x.expectArgs(t, k)
	}
	for _, wrong := range append(build.Improper(), m(1), c(s, m(1)), lam(m(9))) {
		x := right.with(hole(c(nat)))
		x.expectArg(t, k, wrong)
		x.waiting(api.Equation{A: wrong, B: c(z), Class: c(nat)}).expectArgs(t, k)
		x.waiting(api.Equation{A: c(z), B: wrong, Class: c(nat)}).expectArgs(t, k)
		x.waiting(api.Equation{A: c(z), B: c(z), Class: wrong}).expectArgs(t, k)
		x.waiting(api.Equation{Ctx: []api.Term{wrong}, A: c(z), B: c(z), Class: c(nat)}).expectArgs(t, k)
		x.ctx = []api.Term{wrong}
		x.expectArgs(t, k)
	}
	waits := api.Equation{A: c(z), B: c(z), Class: c(nat)}
	right.waiting(slices.Repeat(list(waits), api.MaxLeft+1)...).expectArgs(t, k)
	waits.Ctx = nats(api.MaxCtx + 1)
	right.waiting(waits).expectArgs(t, k)
	// A context of the limit is right, and so is a type that is none.
	full := setting{sig: whole(), ctx: nats(api.MaxCtx), names: make([]string, api.MaxCtx)}
	full.expectObject(t, "s z", c(nat), c(s, c(z)), nil)
	full.expectType(t, "nat -> nat", arrows(1), nil)
	right.expectError(t, typ(), api.ErrLevel, "a")
	right.expectError(t, v(9), api.ErrClash, "a")
}

// P10.1, P10.2: MaxCtx

func TestMaxCtx(t *testing.T) {
	pis := repeated(api.MaxCtx, "{x:nat} ")
	expectClass(t, whole(), pis+"nat", repeated(api.MaxCtx, "nat -> ")+"nat", 0)
	expectErrors(t, whole(), api.ErrFull, pis+"{x:nat} nat", pis+"{x:nat} k")
	expectErrors(t, whole(), api.ErrName, pis+"{x:k} nat")
	full := setting{sig: whole(), ctx: nats(api.MaxCtx), names: make([]string, api.MaxCtx)}
	full.expectNoType(t, api.ErrFull, "{x:nat} nat", "{x:nat} k")
	full.expectNoType(t, api.ErrLevel, "{x:type} k")
	full.expectType(t, "nat -> nat -> type", to(c(nat), c(nat), typ()), nil)
	full.expectError(t, arrows(1), api.ErrFull, "[x] x", "[x] k", "[x:nat] x", "s")
	full.expectError(t, arrows(1), api.ErrName, "[x:k] x")
	full.expectError(t, arrows(1), api.ErrClash, "[x:tm] x")
	less := setting{sig: whole(), ctx: nats(api.MaxCtx - 1), names: make([]string, api.MaxCtx-1)}
	less.expectObject(t, "[x] x", arrows(1), lam(v(0)), nil)
	less.expectObject(t, "s", arrows(1), lam(c(s, v(0))), nil)
	less.expectError(t, arrows(2), api.ErrFull, "[x] [y] x", "[x] s")
	// A kind of more TPis is one, but the kernel has no such context.
	arrow := raw(t, repeated(api.MaxCtx+1, "nat -> ")+"type")
	_, _, err := elab.Class(whole(), arrow)
	expect(t, "Class", err, api.OK)
	_, err = elab.Declare(whole(), "k", arrow)
	expect(t, "Declare", err, api.ErrFull)
}

// P10.1, P10.3: MaxMetas, and how much can be generalized

func TestMaxMetas(t *testing.T) {
	names := func(count int) string {
		text := ""
		for n := range count {
			text += "vec N" + strconv.Itoa(n) + " -> "
		}
		return text
	}
	// Three more names in each of 26 types, and 2 or 3 other ones.
	adds := func(last string) string {
		text := ""
		for n := range 26 {
			k := strconv.Itoa(n)
			text += "plus A" + k + " B" + k + " C" + k + " -> "
		}
		return text + last
	}
	metas, _, err := elab.Query(whole(), raw(t, adds("plus X Y z")))
	if len(metas) != api.MaxMetas || err != api.OK {
		t.Errorf("Query has %d metavariables, %d", len(metas), err)
	}
	expectNoQuery(t, whole(), api.ErrFull, adds("plus X Y Z"), adds("plus X Y _"), adds("plus X Y Z -> k"))
	expectNoQuery(t, whole(), api.ErrName, adds("plus X Y k"))
	// What is generalized is a proper class.
	_, n, err := elab.Class(whole(), raw(t, names(19)+"nat"))
	if n != 19 || err != api.OK {
		t.Errorf("Class has %d implicit arguments, %d", n, err)
	}
	expectErrors(t, whole(), api.ErrFull, names(20)+"nat", adds("plus X Y z"))
	_, err = elab.Declare(whole(), "k", raw(t, names(15)+"nat"))
	expect(t, "Declare", err, api.OK)
	_, err = elab.Declare(whole(), "k", raw(t, names(16)+"nat"))
	expect(t, "Declare", err, api.ErrFull)
}

// P10.2: MaxLeft

func TestMaxLeft(t *testing.T) {
	metas := []api.Meta{named("F", arrows(1))}
	waits := api.Equation{Ctx: nats(1), A: m(0, c(z)), B: c(z), Class: c(nat)}
	most := slices.Repeat(list(waits), api.MaxLeft)
	x := numbers("a").with(metas...).waiting(most...)
	x.expectObject(t, "a", c(nat), v(0), metas, most...)
	x.expectError(t, c(vec, c(z)), api.ErrFull, "empty")
	x.expectError(t, c(vec, c(s, c(z))), api.ErrFull, "empty")
	// Errors of collecting come first.
	x.expectError(t, c(tm), api.ErrClash, "a")
	x.expectError(t, typ(), api.ErrLevel, "a")
	x.waiting(most[1:]...).expectObject(t, "empty", c(vec, c(z)), c(empty), metas, most[1:]...)
	y := x.waiting(most[1:]...)
	last := api.Equation{Ctx: nats(1), A: c(z), B: m(0, c(z)), Class: c(nat)}
	y.expectObject(t, "empty", c(vec, m(0, c(z))), c(empty), metas, append(most[1:api.MaxLeft:api.MaxLeft], last)...)
	y.expectError(t, pi(c(vec, c(z)), c(vec, c(z))), api.ErrFull, "[x:vec (F z)] empty")
}

// P10.2: MaxSteps

func TestMaxSteps(t *testing.T) {
	sig := append(whole(), decl("f", arrows(14)))
	metas := []api.Meta{hole(arrows(1))}
	chain := func(leaf api.Term) api.Term {
		for range 38 {
			leaf = c(len(whole()), append(copies(13, c(z)), leaf)...)
		}
		return leaf
	}
	long := api.Equation{A: chain(m(0, c(z))), B: chain(c(z)), Class: c(nat)}
	short := api.Equation{A: m(0, c(z)), B: c(z), Class: c(nat)}
	x := setting{sig: sig}.with(metas...)
	// Each equation of this length takes 533 steps.
	x.waiting(slices.Repeat(list(long), 37)...).expectObject(t, "z", c(nat), c(z), metas, slices.Repeat(list(short), 37)...)
	x.waiting(slices.Repeat(list(long), 38)...).expectError(t, c(nat), api.ErrFuel, "z")
}

// P10.1, P10.2: terms that are not proper

func TestProper(t *testing.T) {
	implicit := build.Implicit(20, decl("f", arrows(20)))
	sig := append(whole(), implicit, decl("h", to(arrows(1), c(nat))))
	// Each hole is as large as its context.
	for count, want := range map[int]api.Errno{28: api.OK, 29: api.ErrFull} {
		x := setting{sig: sig, ctx: nats(count), names: make([]string, count)}
		_, _, err := x.object(t, "f", c(nat))
		expect(t, "Object", err, want)
		_, _, err = elab.Type(sig, x.problem, x.ctx, x.names, raw(t, "vec f"))
		expect(t, "Type", err, want)
	}
	// A type that is too large as a whole, and its parts are not.
	x := setting{sig: sig, ctx: nats(15), names: make([]string, 15)}
	_, _, err := elab.Type(sig, x.problem, x.ctx, x.names, raw(t, "vec f -> vec z"))
	expect(t, "Type", err, api.OK)
	x.expectNoType(t, api.ErrFull, "vec f -> vec f", "{x:vec f} vec f", "plus f f z")
	x.expectNoType(t, api.ErrName, "plus f f k")
	// One that is deeper than its raw expression.
	deep := func(count int) string { return repeated(count, "s (") + "h s" + repeated(count, ")") }
	x.ctx, x.names = nil, nil
	_, _, err = x.object(t, deep(36), c(nat))
	expect(t, "Object", err, api.OK)
	x.expectError(t, c(nat), api.ErrFull, deep(37), deep(38))
	// A long form.
	wide := arrows(api.MaxCtx - 1)
	x.ctx, x.names = []api.Term{wide}, []string{"w"}
	_, _, err = x.object(t, "w", wide)
	expect(t, "Object", err, api.OK)
}

// P10.2: errors of new metavariables

func TestFreshErrors(t *testing.T) {
	n := c(nat)
	x := setting{sig: whole(), ctx: []api.Term{v(0), n}, names: []string{"a", "b"}}
	// The context is not right: a variable beyond it, and what is no type.
	x.expectError(t, n, api.ErrScope, "_", "s _", "A a")
	x.expectObject(t, "A b", n, m(0, v(0)), []api.Meta{named("A", arrows(1))})
	x.ctx[0] = lam(n)
	x.expectError(t, n, api.ErrLevel, "_", "A a", "A b a")
	x.expectError(t, typ(), api.ErrLevel, "_", "A", "A b")
	x.expectError(t, v(0), api.ErrLevel, "A b")
	x.expectError(t, v(0), api.ErrScope, "A")
	far := setting{sig: whole(), ctx: []api.Term{c(vec, v(api.MaxN)), n}, names: []string{"a", "b"}}
	far.expectError(t, n, api.ErrFull, "a", "A a", "s a")
	most := numbers("a").with(slices.Repeat([]api.Meta{hole(n)}, api.MaxMetas)...)
	most.expectError(t, n, api.ErrFull, "_", "A", "A a", "s _", "s (s A)")
	most.expectError(t, c(plus, c(z), c(z), c(z)), api.ErrFull, "pz")
	most.expectError(t, n, api.ErrOpen, "A z", "A a a")
	most.expectError(t, c(vec, v(0)), api.ErrScope, "A")
	most.expectObject(t, "s a", n, c(s, v(0)), most.problem.Metas)
}
