package check_test

import (
	"slices"
	"testing"

	"truss/api"
	"truss/build"
	"truss/check"
	"truss/term"
)

// P6.1 and P6.2: ErrArg of all functions, before all other errors

// expectArg checks that all judgements return ErrArg for these arguments with right and wrong terms.
func expectArg(t *testing.T, sig []api.Decl, metas []api.Meta, ctx []api.Term) {
	t.Helper()
	expect(t, "Context", check.Context(sig, metas, ctx), api.ErrArg)
	for _, x := range []api.Term{c(nat), typ(), c(99), {}} {
		expectArgOf(t, sig, metas, ctx, x)
	}
}

func expectArgOf(t *testing.T, sig []api.Decl, metas []api.Meta, ctx []api.Term, x api.Term) {
	t.Helper()
	expect(t, "Type", check.Type(sig, metas, ctx, x), api.ErrArg)
	expect(t, "Kind", check.Kind(sig, metas, ctx, x), api.ErrArg)
	expect(t, "Object", check.Object(sig, metas, ctx, x, c(nat)), api.ErrArg)
	expect(t, "Object", check.Object(sig, metas, ctx, c(99), x), api.ErrArg)
	got, err := check.Infer(sig, metas, ctx, x)
	expectTerm(t, "Infer", got, err, api.Term{}, api.ErrArg)
}

func TestArguments(t *testing.T) {
	for _, sig := range [][]api.Decl{
		append(whole(), decl("s", c(nat))),
		append(whole(), decl("type", c(nat))),
		append(whole(), decl("k", c(99))),
		append(whole(), decl("k", v(0))),
		append(whole(), decl("k", c(z))),
		append(whole(), implicit(1, decl("k", c(nat)))),
		append(whole(), implicit(-1, decl("k", c(nat)))),
		many(api.MaxDecls + 1),
		make([]api.Decl, 100000),
	} {
		expectArg(t, sig, some(), types(2))
	}
	for _, x := range build.Improper() {
		expectArg(t, append(whole(), decl("k", x)), some(), types(2))
		expectArg(t, whole(), append(some(), api.Meta{Class: x}), types(2))
		expectArg(t, whole(), some(), append(types(2), x))
		expectArg(t, whole(), some(), append([]api.Term{x}, types(2)...))
		expectArgOf(t, whole(), some(), types(2), x)
	}
	for _, class := range []api.Term{v(0), v(api.MaxN), to(v(0), c(nat)), to(c(nat), c(vec, v(1))), c(vec, lam(v(1)))} {
		expectArg(t, whole(), append(some(), api.Meta{Class: class}), nil)
	}
	metas := slices.Repeat([]api.Meta{{Class: c(nat)}}, api.MaxMetas+1)
	expectArg(t, whole(), metas, nil)
	expectArg(t, whole(), make([]api.Meta, 100000), nil)
	expectArg(t, whole(), some(), types(api.MaxCtx+1))
	expectArg(t, whole(), some(), types(100000))

	got, err := check.Infer(whole(), metas[:api.MaxMetas], types(api.MaxCtx), m(api.MaxMetas-1))
	expectTerm(t, "Infer", got, err, c(nat), api.OK)
	got, err = check.Infer(whole(), metas[:api.MaxMetas], types(api.MaxCtx), m(api.MaxMetas))
	expectTerm(t, "Infer", got, err, api.Term{}, api.ErrScope)
	got, err = check.Infer(many(api.MaxDecls), nil, nil, c(api.MaxDecls-1))
	expectTerm(t, "Infer", got, err, c(0), api.OK)
	got, err = check.Infer(many(api.MaxDecls), nil, nil, c(api.MaxDecls))
	expectTerm(t, "Infer", got, err, api.Term{}, api.ErrScope)
}

// P6.1: a context that becomes too long

func TestLongContexts(t *testing.T) {
	n := c(nat)
	full, nearly := types(api.MaxCtx), types(api.MaxCtx-1)
	expect(t, "Type", check.Type(whole(), nil, nearly, to(n, c(vec, v(api.MaxCtx-1)))), api.OK)
	expect(t, "Type", check.Type(whole(), nil, full, c(vec, v(api.MaxCtx-1))), api.OK)
	expect(t, "Type", check.Type(whole(), nil, full, to(n, n)), api.ErrFull)
	expect(t, "Type", check.Type(whole(), nil, nearly, to(n, to(n, n), n)), api.ErrFull)
	expect(t, "Kind", check.Kind(whole(), nil, nearly, to(n, typ())), api.OK)
	expect(t, "Kind", check.Kind(whole(), nil, full, to(n, typ())), api.ErrFull)
	expect(t, "Object", check.Object(whole(), nil, nearly, lam(v(0)), to(n, n)), api.OK)
	expect(t, "Object", check.Object(whole(), nil, full, lam(v(0)), to(n, n)), api.ErrFull)
	expect(t, "Context", check.Context(whole(), nil, append(nearly[:api.MaxCtx-1:api.MaxCtx-1], to(n, n))), api.OK)
	expect(t, "Context", check.Context(whole(), nil, append(nearly[:api.MaxCtx-1:api.MaxCtx-1], to(n, n, n))), api.ErrFull)
	got, err := check.Infer(whole(), nil, full, c(lambda, lam(v(0))))
	expectTerm(t, "Infer", got, err, api.Term{}, api.ErrFull)
	got, err = check.Infer(whole(), nil, nearly, c(lambda, lam(v(0))))
	expectTerm(t, "Infer", got, err, c(tm), api.OK)

	// The domain, and the form of the object, come before the context; the body comes after it.
	expect(t, "Type", check.Type(whole(), nil, full, to(c(99), n)), api.ErrScope)
	expect(t, "Type", check.Type(whole(), nil, full, to(n, c(99))), api.ErrFull)
	expect(t, "Object", check.Object(whole(), nil, full, c(z), to(n, n)), api.ErrShape)
	expect(t, "Object", check.Object(whole(), nil, full, typ(), to(n, n)), api.ErrLevel)
	expect(t, "Object", check.Object(whole(), nil, full, lam(typ()), to(n, n)), api.ErrFull)

	// A closed class has at most 30 TPis, one below another.
	for _, end := range []api.Term{n, typ()} {
		sig, err := check.Declare(whole(), decl("k", products(api.MaxCtx, end)))
		if at, validErr := check.Signature(sig); err != api.OK || validErr != api.OK || at != len(whole())+1 {
			t.Errorf("error %d, %d at %d", err, validErr, at)
		}
		_, err = check.Declare(whole(), decl("k", products(api.MaxCtx+1, end)))
		expect(t, "Declare", err, api.ErrFull)
		at, err := check.Signature(append(whole(), decl("k", products(api.MaxCtx+1, end)), decl("l", n)))
		if at != len(whole()) || err != api.ErrFull {
			t.Errorf("Signature = %d, %d", at, err)
		}
	}
	expect(t, "Object", check.Object(whole(), nil, nil, lams(api.MaxCtx, v(api.MaxCtx-1)), products(api.MaxCtx, n)), api.OK)
	expect(t, "Object", check.Object(whole(), nil, nil, lams(api.MaxCtx+1, v(api.MaxCtx)), products(api.MaxCtx+1, n)), api.ErrFull)
}

// P6.1: a type whose variables have numbers that are too great

func TestGreatNumbers(t *testing.T) {
	none := api.Term{}
	ctx := []api.Term{c(vec, v(api.MaxN-1)), to(c(nat), c(vec, v(api.MaxN-1)))}
	got, err := check.Infer(whole(), nil, ctx[:1], v(0))
	expectTerm(t, "Infer", got, err, c(vec, v(api.MaxN)), api.OK)
	got, err = check.Infer(whole(), nil, ctx, v(1))
	expectTerm(t, "Infer", got, err, none, api.ErrFull)
	// Below the TPi the number counts its binder, too; the shift comes before the spine.
	got, err = check.Infer(whole(), nil, ctx, v(0, c(z)))
	expectTerm(t, "Infer", got, err, c(vec, v(api.MaxN-1)), api.OK)
	for _, x := range []api.Term{v(0, c(z)), v(0), v(0, c(99))} {
		got, err = check.Infer(whole(), nil, []api.Term{to(c(nat), c(vec, v(api.MaxN)))}, x)
		expectTerm(t, "Infer", got, err, none, api.ErrFull)
	}
	expect(t, "Object", check.Object(whole(), nil, ctx[:1], v(0), c(vec, v(api.MaxN))), api.OK)
	expect(t, "Object", check.Object(whole(), nil, ctx, v(1), c(nat)), api.ErrFull)
	expect(t, "Type", check.Type(whole(), nil, ctx, c(vec, v(1))), api.ErrFull)
}

// P6.1: errors of subst.Instance

func TestErrorsOfInstance(t *testing.T) {
	n := c(nat)
	none := api.Term{}
	// 600 nodes are what a type may have: that of pair has twice as many as its object, and one more.
	sig := append(whole(), decl("pair", to(n, n, typ())), decl("two", to(n, c(len(whole()), v(0), v(0)))), decl("sum", to(n, n, n)))
	two, sum := len(whole())+1, len(whole())+2
	tree := func(leaves int) api.Term {
		var list []api.Term
		for range leaves {
			list = append(list, c(z))
		}
		for len(list) > 1 {
			list = append(list[2:], c(sum, list[0], list[1]))
		}
		return list[0]
	}
	got, err := check.Infer(sig, nil, nil, c(two, tree(150)))
	expectTerm(t, "Infer", got, err, c(len(whole()), tree(150), tree(150)), api.OK)
	got, err = check.Infer(sig, nil, nil, c(two, tree(151)))
	expectTerm(t, "Infer", got, err, none, api.ErrFull)

	// A domain without a simple type, and a variable that is not used as its domain says, can only be in a signature that is
	// formed and not valid. The object is checked before.
	k, l, l1 := len(whole()), len(whole())+1, len(whole())+2
	odd := append(whole(),
		decl("k", to(to(typ(), n), n)),
		decl("l", to(n, c(vec, v(0, c(z))))),
		decl("l1", to(n, c(vec, v(0, c(z))), n)),
		decl("l2", to(typ(), n)))
	for _, x := range []struct {
		constant int
		object   api.Term
		want     api.Errno
	}{
		{k, lam(c(z)), api.ErrLevel},
		{k, c(99), api.ErrShape},
		{l, c(z), api.ErrShape},
		{l, c(99), api.ErrScope},
		{l1, c(z), api.ErrShape},
		{l1, c(nat), api.ErrLevel},
		{l1 + 1, n, api.ErrLevel},
	} {
		got, err := check.Infer(odd, nil, nil, c(x.constant, x.object))
		expectTerm(t, "Infer", got, err, none, x.want)
	}
}

// Rules 1 and 4 of DOC.md

func TestArgumentsStayAndResultsAreNew(t *testing.T) {
	ctx := make([]api.Term, 0, api.MaxCtx)
	ctx = append(ctx, c(nat), c(vec, v(0)))
	a := to(c(nat), c(nat), c(vec, v(3)))
	expect(t, "Type", check.Type(whole(), nil, ctx, a), api.OK)
	expect(t, "Object", check.Object(whole(), nil, ctx, lam(lam(v(1))), to(c(nat), c(nat), c(nat))), api.OK)
	expect(t, "Context", check.Context(whole(), nil, append(ctx, a)), api.OK)
	for _, x := range ctx[3:cap(ctx)] {
		if !term.Same(x, api.Term{}) {
			t.Fatalf("something is written behind the context: %v", ctx[:cap(ctx)])
		}
	}
	sig, metas := whole(), some()
	for _, x := range []api.Term{c(empty), m(3), v(0), c(pz, c(s, c(z)))} {
		got, _ := check.Infer(sig, metas, ctx, x)
		arguments := slices.Concat(build.Classes(sig), build.Parts(metas), ctx, x.Args)
		if !build.Apart(arguments, []api.Term{got}) {
			t.Errorf("Infer of %v shares memory with an argument", x)
		}
	}
	longer, _ := check.Declare(sig, decl("k", a.Args[0]))
	if !build.Apart(append(build.Classes(sig), a), build.Classes(longer)) {
		t.Errorf("Declare shares memory with an argument")
	}
}
