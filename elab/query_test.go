package elab_test

import (
	"testing"

	"truss/api"
	"truss/build"
	"truss/elab"
)

func expectQuery(t *testing.T, sig []api.Decl, text string, want api.Term, metas ...api.Meta) {
	t.Helper()
	list, got, err := elab.Query(sig, raw(t, text))
	expectTerm(t, "Query of "+text, got, err, want, api.OK)
	if !build.SameMetas(list, metas) {
		t.Errorf("Query of %q: the metavariables are %v, want %v", text, list, metas)
	}
}

func expectNoQuery(t *testing.T, sig []api.Decl, want api.Errno, texts ...string) {
	t.Helper()
	for _, text := range texts {
		list, got, err := elab.Query(sig, raw(t, text))
		expectTerm(t, "Query of "+text, got, err, api.Term{}, want)
		if len(list) > 0 {
			t.Errorf("Query of %q: the metavariables are %v", text, list)
		}
	}
}

// P10.3: Query

func TestQuery(t *testing.T) {
	sig := whole()
	n := c(nat)
	expectQuery(t, sig, "nat", n)
	expectQuery(t, sig, "plus (s z) M N", c(plus, c(s, c(z)), m(0), m(1)), named("M", n), named("N", n))
	expectQuery(t, sig, "plus N _ N", c(plus, m(0), m(1), m(0)), named("N", n), hole(n))
	expectQuery(t, sig, "{x:nat} plus x (F x) N", pi(n, c(plus, v(0), m(0, v(0)), m(1))), named("F", arrows(1)), named("N", n))
	expectQuery(t, sig, "{x:nat} vec _ -> vec (F x)", pi(n, pi(c(vec, m(0, v(0))), c(vec, m(1, v(1))))), hole(arrows(1)), named("F", arrows(1)))
	// They are resolved, and stay where they are.
	of := declared(t, sig, "of : vec N -> type. same : vec N -> vec N -> type.")
	two := c(s, c(z))
	expectQuery(t, of, "of empty", c(len(sig), c(z), c(empty)), solved(n, c(z)))
	want := []api.Meta{solved(n, two), named("V", c(vec, two)), solved(n, c(z))}
	expectQuery(t, of, "same V (cons z empty)", c(len(sig)+1, two, m(1), c(cons, c(z), c(z), c(empty))), want...)
	expectNoQuery(t, sig, api.ErrLevel, "type", "nat -> type", "{x:nat} type", "z", "N", "_", "[x] nat", "{x:nat} plus x N M -> type", "type -> nat")
	expectNoQuery(t, sig, api.ErrName, "k", "vec k")
	expectNoQuery(t, sig, api.ErrShape, "vec", "plus z z")
	expectNoQuery(t, sig, api.ErrOpen, "{x} nat", "vec (F z)")
	expectNoQuery(t, sig, api.ErrClash, "vec empty")
	for _, r := range malformed() {
		list, got, err := elab.Query(sig, r)
		expectTerm(t, "Query", got, err, api.Term{}, api.ErrArg)
		if len(list) > 0 {
			t.Errorf("Query = %v", list)
		}
	}
}

// open declares what leaves an equation: a family of functions whose results are in a type.
func open(t *testing.T) []api.Decl {
	t.Helper()
	return declared(t, whole(), "of : {f:nat -> nat} vec (f z) -> type. at : {f:nat -> nat} {v:vec (f z)} of f v.")
}

// P10.1, P10.3: equations that are left at the end

func TestOpen(t *testing.T) {
	sig := open(t)
	expectNoQuery(t, sig, api.ErrOpen, "of F empty", "of _ empty", "of F empty -> of F empty", "{x:nat} of (F x) empty")
	expectErrors(t, sig, api.ErrOpen, "of F empty", "of F empty -> type", "{x:nat} of _ empty")
	// That it is a kind comes before that, in a query.
	expectNoQuery(t, sig, api.ErrLevel, "of F empty -> type", "of F empty -> type -> nat")
	// Errors of the reconstruction come before it.
	expectErrors(t, sig, api.ErrName, "of F empty -> k")
	expectNoQuery(t, sig, api.ErrClash, "of F empty -> vec empty")
	// What comes later may decide it.
	fun := declared(t, sig, "is : (nat -> nat) -> (nat -> nat) -> type. here : {f:nat -> nat} is f f -> type. i : {f:nat -> nat} is f f.")
	expectClass(t, fun, "{d:of F empty} here F (i [x] x)", "of ([x1] x1) empty -> here ([x1] x1) (i ([x1] x1))", 0)
	expectErrors(t, fun, api.ErrClash, "{d:of F empty} here F (i s)")
}

// P10.3: Closed

func TestClosed(t *testing.T) {
	sig := whole()
	n := c(nat)
	for _, x := range []struct {
		text    string
		a, want api.Term
	}{
		{"s z", n, c(s, c(z))},
		{"s", arrows(1), lam(c(s, v(0)))},
		{"[x] s x", arrows(1), lam(c(s, v(0)))},
		{"[x:nat] [y] x", arrows(2), lams(2, v(1))},
		{"pz", c(plus, c(z), c(z), c(z)), c(pz, c(z))},
		{"ps (ps pz)", c(plus, c(s, c(s, c(z))), c(z), c(s, c(s, c(z)))), c(ps, c(s, c(z)), c(z), c(s, c(z)), c(ps, c(z), c(z), c(z), c(pz, c(z))))},
		{"[x] pz", pi(n, c(plus, c(z), v(0), v(0))), lam(c(pz, v(0)))},
		{"cons (s z) (cons z empty)", c(vec, c(s, c(s, c(z)))), c(cons, c(s, c(z)), c(s, c(z)), c(cons, c(z), c(z), c(empty)))},
	} {
		got, err := elab.Closed(sig, raw(t, x.text), x.a)
		expectTerm(t, "Closed of "+x.text, got, err, x.want, api.OK)
	}
	wrong := map[api.Errno][]string{
		api.ErrOpen:  {"_", "N", "s _", "s (s N)", "([x] x) z", "type z", "F z", "_ z"},
		api.ErrName:  {"k", "s k", "s (k N)"},
		api.ErrLevel: {"nat", "type", "nat -> nat", "s nat", "vec z"},
		api.ErrShape: {"s", "[x] x", "z z", "s z z"},
		api.ErrClash: {"empty", "pz", "lam [x] x"},
	}
	for want, texts := range wrong {
		for _, text := range texts {
			got, err := elab.Closed(sig, raw(t, text), n)
			expectTerm(t, "Closed of "+text, got, err, api.Term{}, want)
		}
	}
	// An equation that is left, and metavariables that are found.
	left := declared(t, open(t), "q : {f:nat -> nat} vec (f z) -> nat.")
	of := func(f, l api.Term) api.Term { return c(len(sig), f, l) }
	got, err := elab.Closed(left, raw(t, "at F _"), of(lam(v(0)), c(empty)))
	expectTerm(t, "Closed", got, err, c(len(sig)+1, lam(v(0)), c(empty)), api.OK)
	got, err = elab.Closed(left, raw(t, "at _ V"), of(lam(v(0)), c(empty)))
	expectTerm(t, "Closed", got, err, c(len(sig)+1, lam(v(0)), c(empty)), api.OK)
	got, err = elab.Closed(left, raw(t, "q _ empty"), n)
	expectTerm(t, "Closed", got, err, api.Term{}, api.ErrOpen)
	// An equation of metavariables that are not in the object.
	left = declared(t, left, "three : ((nat -> nat) -> nat) -> nat -> nat -> type.")
	three := pi(c(len(left)-1, lam(c(z)), c(z), c(z)), n)
	got, err = elab.Closed(left, raw(t, "[x:three ([g] G g) (G ([y] F y)) (F z)] z"), three)
	expectTerm(t, "Closed", got, err, api.Term{}, api.ErrOpen)
	got, err = elab.Closed(left, raw(t, "[x:three ([g] G g) (G ([y] F y)) z] z"), three)
	expectTerm(t, "Closed", got, err, lam(c(z)), api.OK)
	got, err = elab.Closed(left, raw(t, "q ([x] x) empty"), n)
	expectTerm(t, "Closed", got, err, c(len(sig)+2, lam(v(0)), c(empty)), api.OK)
}

// P10.3: arguments of Closed

func TestClosedArguments(t *testing.T) {
	sig := whole()
	r := raw(t, "k")
	for _, a := range append(build.Improper(), v(0), c(vec, v(0)), m(0), c(vec, m(0)), pi(c(nat), v(1)), lam(m(0))) {
		got, err := elab.Closed(sig, r, a)
		expectTerm(t, "Closed", got, err, api.Term{}, api.ErrArg)
	}
	for _, r := range malformed() {
		got, err := elab.Closed(sig, r, c(nat))
		expectTerm(t, "Closed", got, err, api.Term{}, api.ErrArg)
	}
	for _, sig := range unformed() {
		got, err := elab.Closed(sig, r, c(nat))
		expectTerm(t, "Closed", got, err, api.Term{}, api.ErrArg)
	}
	// Whether it is a type is not asked before.
	for _, a := range []api.Term{typ(), lam(c(nat))} {
		got, err := elab.Closed(sig, raw(t, "z"), a)
		expectTerm(t, "Closed", got, err, api.Term{}, api.ErrLevel)
		got, err = elab.Closed(sig, raw(t, "k"), a)
		expectTerm(t, "Closed", got, err, api.Term{}, api.ErrName)
	}
	got, err := elab.Closed(sig, raw(t, "z"), c(z))
	expectTerm(t, "Closed", got, err, api.Term{}, api.ErrClash)
}
