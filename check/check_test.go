package check_test

import (
	"testing"

	"truss/api"
	"truss/check"
)

// P6.1: types

func TestType(t *testing.T) {
	ctx := []api.Term{c(nat), to(c(nat), c(nat)), c(vec, v(1))}
	expectType := func(a api.Term, want api.Errno) {
		t.Helper()
		if err := check.Type(whole(), some(), ctx, a); err != want {
			t.Errorf("Type(%v): error %d, want %d", a, err, want)
		}
	}
	expectType(c(nat), api.OK)
	expectType(c(plus, c(z), v(2), m(0)), api.OK)
	expectType(c(vec, v(1, v(2))), api.OK)
	expectType(to(c(nat), c(vec, v(0))), api.OK)
	expectType(to(to(c(nat), c(nat)), c(vec, v(0, c(z)))), api.OK)

	// The head comes first, then the spine, then what is left.
	expectType(v(0), api.ErrLevel)
	expectType(v(99), api.ErrLevel)
	expectType(m(0), api.ErrLevel)
	expectType(m(99), api.ErrLevel)
	expectType(c(z), api.ErrLevel)
	expectType(c(s, c(99)), api.ErrLevel)
	expectType(c(each+1), api.ErrScope)
	expectType(c(99, c(nat)), api.ErrScope)
	expectType(c(plus), api.ErrShape)
	expectType(c(plus, c(z), c(z)), api.ErrShape)
	expectType(c(plus, c(z), c(z), c(z), c(z)), api.ErrShape)
	expectType(c(nat, c(z)), api.ErrShape)
	expectType(c(nat, c(99)), api.ErrShape)
	expectType(c(plus, c(99)), api.ErrScope)
	expectType(c(plus, c(z), c(nat), c(z), c(z)), api.ErrLevel)
	expectType(c(plus, c(z), v(0), c(99)), api.ErrType)
	expectType(c(plus, c(z), lam(v(0)), c(99)), api.ErrShape)
	expectType(c(vec, v(0)), api.ErrType)

	// The domain comes before the body.
	expectType(to(c(z), c(99)), api.ErrLevel)
	expectType(to(c(99), c(z)), api.ErrScope)
	expectType(to(c(nat), c(z)), api.ErrLevel)
	expectType(to(c(nat), typ()), api.ErrLevel)
	expectType(to(typ(), c(nat)), api.ErrLevel)
	expectType(to(to(c(nat), typ()), c(nat)), api.ErrLevel)
	expectType(to(c(nat), c(nat), c(vec, v(2))), api.ErrType)
	expectType(to(c(nat), c(vec, v(4))), api.ErrScope)
	expectType(typ(), api.ErrLevel)
	expectType(lam(c(nat)), api.ErrLevel)
}

// P6.1: kinds

func TestKind(t *testing.T) {
	ctx := []api.Term{c(nat)}
	expectKind := func(k api.Term, want api.Errno) {
		t.Helper()
		if err := check.Kind(whole(), some(), ctx, k); err != want {
			t.Errorf("Kind(%v): error %d, want %d", k, err, want)
		}
	}
	expectKind(typ(), api.OK)
	expectKind(to(c(nat), c(nat), typ()), api.OK)
	expectKind(to(c(nat), c(vec, v(0)), c(vec, v(2)), typ()), api.OK)
	expectKind(to(c(vec, m(0)), typ()), api.OK)
	expectKind(c(nat), api.ErrLevel)
	expectKind(c(99), api.ErrLevel)
	expectKind(v(0), api.ErrLevel)
	expectKind(lam(typ()), api.ErrLevel)
	expectKind(to(c(nat), c(nat)), api.ErrLevel)
	expectKind(to(typ(), typ()), api.ErrLevel)
	expectKind(to(to(c(nat), typ()), typ()), api.ErrLevel)
	expectKind(to(c(99), c(nat)), api.ErrScope)
	expectKind(to(c(nat), c(99)), api.ErrLevel)
	expectKind(to(c(nat), c(vec, v(2)), typ()), api.ErrScope)
	expectKind(to(c(plus), typ()), api.ErrShape)
	expectKind(to(c(nat), c(vec, c(empty)), typ()), api.ErrType)
}

// P6.1: objects

func TestObject(t *testing.T) {
	expectObject := func(object, a api.Term, want api.Errno) {
		t.Helper()
		if err := check.Object(whole(), some(), nil, object, a); err != want {
			t.Errorf("Object(%v, %v): error %d, want %d", object, a, err, want)
		}
	}
	n := c(nat)
	fun := to(n, n)
	one := c(s, c(z))

	// Examples 1 and 3 of the chapter.
	expectObject(one, n, api.OK)
	expectObject(c(s), n, api.ErrShape)
	expectObject(lam(c(s, v(0))), fun, api.OK)
	expectObject(c(pz, one), c(plus, c(z), one, one), api.OK)
	expectObject(c(pz, one), c(plus, c(z), c(z), c(z)), api.ErrType)

	expectObject(c(ps, c(z), one, one, c(pz, one)), c(plus, one, one, c(s, one)), api.OK)
	expectObject(c(cons, c(z), one, c(empty)), c(vec, one), api.OK)
	expectObject(lam(lam(c(cons, v(1), c(z), v(0)))), to(n, c(vec, v(0)), c(vec, c(s, v(1)))), api.OK)
	expectObject(m(1, m(0)), n, api.OK)
	expectObject(m(3), c(vec, c(s, m(0))), api.OK)
	expectObject(m(4, lam(v(0)), lam(m(2, v(0)))), c(vec, m(1, c(z))), api.OK)
	id := lam(v(0))
	redex := c(apply, c(lambda, id), c(lambda, id))
	expectObject(c(beta, id, c(lambda, id)), c(step, redex, c(lambda, id)), api.OK)
	expectObject(c(each, lam(c(s, v(0))), lam(c(pz, v(0)))), c(vec, one), api.ErrType)
	expectObject(lam(c(each, lam(v(0)), v(0))), to(to(n, c(plus, v(0), v(0), v(0))), c(vec, c(z))), api.ErrShape)
	expectObject(lam(c(each, lam(v(0)), lam(v(1, v(0))))), to(to(n, c(plus, v(0), v(0), v(0))), c(vec, c(z))), api.OK)

	// A TPi has TLams, a TApp has TApps.
	expectObject(c(s), fun, api.ErrShape)
	expectObject(c(99), fun, api.ErrShape)
	expectObject(typ(), fun, api.ErrLevel)
	expectObject(to(n, n), fun, api.ErrLevel)
	expectObject(lam(typ()), fun, api.ErrLevel)
	expectObject(lam(lam(v(0))), fun, api.ErrShape)
	expectObject(lam(v(0)), to(n, n, n), api.ErrShape)
	expectObject(lam(c(z)), n, api.ErrShape)
	expectObject(typ(), n, api.ErrLevel)
	expectObject(to(n, n), n, api.ErrLevel)
	expectObject(n, n, api.ErrLevel)

	// The type is not checked; but it must be a TPi or a TApp.
	for _, object := range []api.Term{c(z), lam(c(z)), typ(), c(99)} {
		expectObject(object, typ(), api.ErrLevel)
		expectObject(object, lam(n), api.ErrLevel)
	}
	expectObject(lam(lam(c(99))), to(n, typ()), api.ErrLevel)
	expectObject(c(z), c(nat, c(z)), api.ErrType)
	expectObject(c(z), c(99), api.ErrType)
	expectObject(c(z), m(99), api.ErrType)
	expectObject(c(s), c(99), api.ErrShape)
	expectObject(lam(c(z)), to(c(99), n), api.OK)
	expectObject(lam(c(z)), to(typ(), n), api.OK)
	expectObject(lam(v(0)), to(c(99), c(99)), api.OK)
}

// P6.1: the type of a TApp

func TestInfer(t *testing.T) {
	n := c(nat)
	ctx := []api.Term{n, to(n, n), to(n, c(vec, v(1, v(0)))), c(plus, v(2), c(z), v(1, v(2)))}
	none := api.Term{}
	expectInfer := func(object, want api.Term, wantErr api.Errno) {
		t.Helper()
		got, err := check.Infer(whole(), some(), ctx, object)
		expectTerm(t, "Infer", got, err, want, wantErr)
	}
	expectInfer(c(z), n, api.OK)
	expectInfer(v(3), n, api.OK)
	expectInfer(v(2, v(3)), n, api.OK)
	expectInfer(v(1, c(z)), c(vec, v(2, c(z))), api.OK)
	expectInfer(v(0), c(plus, v(3), c(z), v(2, v(3))), api.OK)
	expectInfer(m(2, v(3)), c(vec, v(3)), api.OK)
	expectInfer(m(4, lam(v(3, v(0))), lam(m(2, v(3, v(0))))), c(vec, m(1, c(z))), api.OK)
	expectInfer(m(4, lam(v(3, v(0))), lam(v(2, v(0)))), c(vec, m(1, c(z))), api.OK)
	expectInfer(m(4, lam(v(0)), lam(v(2, v(0)))), none, api.ErrType)

	// The head comes first, then the spine, from its first object on, then what is left.
	expectInfer(v(4), none, api.ErrScope)
	expectInfer(v(4, c(nat)), none, api.ErrScope)
	expectInfer(c(each+1), none, api.ErrScope)
	expectInfer(m(5, c(nat)), none, api.ErrScope)
	expectInfer(c(nat), none, api.ErrLevel)
	expectInfer(c(plus, c(99)), none, api.ErrLevel)
	expectInfer(c(s), none, api.ErrShape)
	expectInfer(c(s, c(z), c(z)), none, api.ErrShape)
	expectInfer(c(s, c(z), c(99)), none, api.ErrShape)
	expectInfer(c(s, c(99), c(z)), none, api.ErrScope)
	expectInfer(c(cons, c(99)), none, api.ErrScope)
	expectInfer(c(cons, c(z), c(nat), c(99)), none, api.ErrLevel)
	expectInfer(c(cons, c(s, c(z)), c(z), c(empty)), none, api.ErrType)
	expectInfer(c(cons, c(z), c(z), c(empty), c(z)), none, api.ErrShape)
	expectInfer(c(lambda, c(z)), none, api.ErrShape)
	expectInfer(c(lambda, lam(c(z))), none, api.ErrType)
	expectInfer(c(lambda, typ()), none, api.ErrLevel)
	expectInfer(v(3, c(z)), none, api.ErrShape)
	expectInfer(v(1), none, api.ErrShape)
	expectInfer(m(1), none, api.ErrShape)
	expectInfer(m(0, c(z)), none, api.ErrShape)
	for _, x := range []api.Term{typ(), lam(v(0)), to(n, n), lam(c(99))} {
		expectInfer(x, none, api.ErrLevel)
	}
}

// P6.1: contexts

func TestContext(t *testing.T) {
	n := c(nat)
	for _, x := range []struct {
		ctx  []api.Term
		want api.Errno
	}{
		{nil, api.OK},
		{[]api.Term{}, api.OK},
		{[]api.Term{n, c(vec, v(0)), c(vec, v(1))}, api.OK},
		{[]api.Term{n, c(plus, v(0), c(z), v(0)), to(n, c(vec, v(2)))}, api.OK},
		{[]api.Term{c(vec, m(0))}, api.OK},
		{types(api.MaxCtx), api.OK},
		{[]api.Term{c(vec, v(0)), n}, api.ErrScope},
		{[]api.Term{n, c(vec, v(0)), c(vec, v(0))}, api.ErrType},
		{[]api.Term{n, c(vec), c(99)}, api.ErrShape},
		{[]api.Term{n, c(99), c(vec)}, api.ErrScope},
		{[]api.Term{typ()}, api.ErrLevel},
		{[]api.Term{n, v(0)}, api.ErrLevel},
		{[]api.Term{lam(n)}, api.ErrLevel},
	} {
		if err := check.Context(whole(), some(), x.ctx); err != x.want {
			t.Errorf("Context(%v): error %d, want %d", x.ctx, err, x.want)
		}
	}
}

// P6.1: what the kernel does not look at

func TestMetasAreTheirClasses(t *testing.T) {
	metas := []api.Meta{{Name: "A", Class: c(nat)}, {Name: "A", Class: c(nat), Value: c(99)}, {Name: "no name", Class: to(c(nat), c(nat)), Solved: true, Value: v(-1)}}
	got, err := check.Infer(whole(), metas, nil, m(2, m(1)))
	expectTerm(t, "Infer", got, err, c(nat), api.OK)
	// A Class need be no type, as long as it is closed.
	metas = []api.Meta{{Class: c(99, m(99))}, {Class: typ()}, {Class: to(typ(), lam(v(0)))}}
	got, err = check.Infer(whole(), metas, nil, m(0))
	expectTerm(t, "Infer", got, err, c(99, m(99)), api.OK)
	got, err = check.Infer(whole(), metas, nil, m(1))
	expectTerm(t, "Infer", got, err, typ(), api.OK)
	expect(t, "Object", check.Object(whole(), metas, nil, m(0), c(99, m(99))), api.OK)
	expect(t, "Object", check.Object(whole(), metas, nil, m(2, c(z)), c(nat)), api.ErrLevel)
}

func TestContextIsNotChecked(t *testing.T) {
	ctx := []api.Term{v(7), typ(), lam(v(0)), c(99)}
	for n, want := range []api.Term{c(99), lam(v(0)), typ(), v(11)} {
		got, err := check.Infer(whole(), nil, ctx, v(n))
		expectTerm(t, "Infer", got, err, want, api.OK)
	}
	expect(t, "Object", check.Object(whole(), nil, ctx, v(3), v(11)), api.OK)
	expect(t, "Object", check.Object(whole(), nil, ctx, v(2), typ()), api.ErrLevel)
}

// P6.2

func TestSignature(t *testing.T) {
	for _, sig := range [][]api.Decl{nil, whole()[:1], whole()[:pz], whole(), many(api.MaxDecls)} {
		if n, err := check.Signature(sig); n != len(sig) || err != api.OK {
			t.Errorf("Signature = %d, %d; want %d", n, err, len(sig))
		}
	}
	wrong := func(sig []api.Decl, wantAt int, want api.Errno) {
		t.Helper()
		if n, err := check.Signature(sig); n != wantAt || err != want {
			t.Errorf("Signature = %d, %d; want %d, %d", n, err, wantAt, want)
		}
	}
	for _, x := range []struct {
		class api.Term
		want  api.Errno
	}{
		{c(plus), api.ErrShape},
		{to(c(nat), c(vec)), api.ErrShape},
		{to(c(nat), c(nat), c(nat, c(z))), api.ErrShape},
		{to(c(z), c(nat)), api.ErrLevel},
		{to(typ(), typ()), api.ErrLevel},
		{to(c(vec, c(empty)), typ()), api.ErrType},
		{c(vec, typ()), api.ErrLevel},
	} {
		wrong(append(whole(), decl("k", x.class), decl("l", c(plus))), len(whole()), x.want)
		_, err := check.Declare(whole(), decl("k", x.class))
		expect(t, "Declare", err, x.want)
	}
	// ErrArg comes first, whatever else is wrong.
	sig := append(whole(), decl("k", c(plus)), decl("k", c(nat)))
	wrong(sig, 0, api.ErrArg)
	wrong(many(api.MaxDecls+1), 0, api.ErrArg)
	wrong([]api.Decl{decl("a", c(0))}, 0, api.ErrArg)
}

func TestDeclare(t *testing.T) {
	var sig []api.Decl
	for _, d := range whole() {
		longer, err := check.Declare(sig, d)
		if err != api.OK || !isSameSignature(longer, append(sig[:len(sig):len(sig)], d)) {
			t.Fatalf("Declare(%s) = %v, %d", d.Name, longer, err)
		}
		sig = longer
	}
	wrong := func(sig []api.Decl, d api.Decl, want api.Errno) {
		t.Helper()
		if got, err := check.Declare(sig, d); len(got) != 0 || err != want {
			t.Errorf("Declare = %v, %d; want error %d", got, err, want)
		}
	}
	// The errors of sign.Add come before those of the class.
	wrong(sig, decl("nat", c(plus)), api.ErrTwice)
	wrong(sig, decl("Nat", c(plus)), api.ErrArg)
	wrong(sig, implicit(1, decl("k", c(plus))), api.ErrArg)
	wrong(sig, decl("k", c(99)), api.ErrArg)
	wrong(sig, decl("k", c(z)), api.ErrArg)
	wrong(sig, decl("k", lam(c(nat))), api.ErrArg)
	wrong(sig, decl("k", v(0)), api.ErrArg)
	wrong(many(api.MaxDecls), decl("k", c(0, c(0))), api.ErrFull)
	wrong(many(api.MaxDecls), decl("a", c(0, c(0))), api.ErrTwice)
	wrong(many(api.MaxDecls+1), decl("k", c(0)), api.ErrArg)
	wrong([]api.Decl{decl("a", c(0))}, decl("a", c(0)), api.ErrArg)
	if got, err := check.Declare(many(api.MaxDecls-1), decl("k", c(0))); len(got) != api.MaxDecls || err != api.OK {
		t.Errorf("Declare = %v, %d", got, err)
	}
	// The signature itself need not be valid.
	invalid := append(whole(), decl("k", c(plus)))
	if got, err := check.Declare(invalid, decl("l", c(nat))); len(got) != len(invalid)+1 || err != api.OK {
		t.Errorf("Declare = %v, %d", got, err)
	}
	// Implicit arguments are checked like others.
	for n, want := range []api.Errno{api.OK, api.OK, api.OK, api.ErrArg} {
		_, err := check.Declare(sig, implicit(n, decl("k", to(c(nat), c(nat), c(nat)))))
		expect(t, "Declare", err, want)
	}
}
