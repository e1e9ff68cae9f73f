package elab_test

import (
	"slices"
	"testing"

	"truss/api"
	"truss/build"
	"truss/elab"
)

// A setting is what a raw expression is reconstructed in.
type setting struct {
	sig     []api.Decl
	problem api.Problem
	ctx     []api.Term
	names   []string
}

// numbers returns a setting of numbers of these names, over whole.
func numbers(names ...string) setting {
	return setting{sig: whole(), ctx: nats(len(names)), names: names}
}

func (x setting) with(metas ...api.Meta) setting {
	x.problem.Metas = metas
	return x
}

func (x setting) waiting(left ...api.Equation) setting {
	x.problem.Left = left
	return x
}

func (x setting) object(t *testing.T, text string, a api.Term) (api.Problem, api.Term, api.Errno) {
	t.Helper()
	return elab.Object(x.sig, x.problem, x.ctx, x.names, raw(t, text), a)
}

// expectObject checks what Object returns: the object, the metavariables and the equations that are left.
func (x setting) expectObject(t *testing.T, text string, a, want api.Term, metas []api.Meta, left ...api.Equation) {
	t.Helper()
	p, got, err := x.object(t, text, a)
	expectTerm(t, "Object of "+text, got, err, want, api.OK)
	if !build.SameProblem(p, api.Problem{Metas: metas, Left: left}) {
		t.Errorf("Object of %q: the state is %v, want %v, %v", text, p, metas, left)
	}
}

// expectError checks that Object has an error, and no result.
func (x setting) expectError(t *testing.T, a api.Term, want api.Errno, texts ...string) {
	t.Helper()
	for _, text := range texts {
		p, got, err := x.object(t, text, a)
		expectTerm(t, "Object of "+text, got, err, api.Term{}, want)
		if len(p.Metas) > 0 || len(p.Left) > 0 {
			t.Errorf("Object of %q: the state is %v", text, p)
		}
	}
}

// expectType checks what Type returns.
func (x setting) expectType(t *testing.T, text string, want api.Term, metas []api.Meta, left ...api.Equation) {
	t.Helper()
	p, got, err := elab.Type(x.sig, x.problem, x.ctx, x.names, raw(t, text))
	expectTerm(t, "Type of "+text, got, err, want, api.OK)
	if !build.SameProblem(p, api.Problem{Metas: metas, Left: left}) {
		t.Errorf("Type of %q: the state is %v, want %v, %v", text, p, metas, left)
	}
}

func (x setting) expectNoType(t *testing.T, want api.Errno, texts ...string) {
	t.Helper()
	for _, text := range texts {
		p, got, err := elab.Type(x.sig, x.problem, x.ctx, x.names, raw(t, text))
		expectTerm(t, "Type of "+text, got, err, api.Term{}, want)
		if len(p.Metas) > 0 || len(p.Left) > 0 {
			t.Errorf("Type of %q: the state is %v", text, p)
		}
	}
}

// P10.2: objects in a context

func TestObjectInContext(t *testing.T) {
	x := numbers("a", "b")
	n := c(nat)
	x.expectObject(t, "a", n, v(1), nil)
	x.expectObject(t, "s b", n, c(s, v(0)), nil)
	x.expectObject(t, "[x] s a", arrows(1), lam(c(s, v(2))), nil)
	x.expectObject(t, "[a:nat] s a", arrows(1), lam(c(s, v(0))), nil)
	x.expectObject(t, "s", arrows(1), lam(c(s, v(0))), nil)
	x.expectObject(t, "_", n, m(0, v(1), v(0)), []api.Meta{hole(arrows(2))})
	x.expectObject(t, "[x] _", arrows(1), lam(m(0, v(2), v(1), v(0))), []api.Meta{hole(arrows(3))})
	x.expectObject(t, "_", arrows(1), lam(m(0, v(2), v(1), v(0))), []api.Meta{hole(arrows(3))})
	x.expectObject(t, "M", n, m(0), []api.Meta{named("M", n)})
	x.expectObject(t, "F", arrows(1), lam(m(0, v(0))), []api.Meta{named("F", arrows(1))})
	x.expectObject(t, "F b a", n, m(0, v(0), v(1)), []api.Meta{named("F", arrows(2))})
	x.expectObject(t, "F b", arrows(1), lam(m(0, v(1), v(0))), []api.Meta{named("F", arrows(2))})
	x.expectObject(t, "pz", c(plus, c(z), v(0), v(0)), c(pz, v(0)), []api.Meta{solved(arrows(2), lams(2, v(0)))})
	x.expectError(t, n, api.ErrName, "k", "s k", "x")
	x.expectError(t, n, api.ErrLevel, "type", "nat -> nat", "{x:nat} nat", "nat")
	x.expectError(t, n, api.ErrShape, "s", "a b", "[x] x", "s a b", "[x:k] x")
	x.expectError(t, n, api.ErrClash, "lam [x] x", "empty", "pz")
}

// P10.2: types in a context

func TestTypeInContext(t *testing.T) {
	x := numbers("a", "b")
	n := c(nat)
	x.expectType(t, "vec a", c(vec, v(1)), nil)
	x.expectType(t, "type", typ(), nil)
	x.expectType(t, "vec a -> vec b", pi(c(vec, v(1)), c(vec, v(1))), nil)
	x.expectType(t, "{b:vec a} vec a -> type", pi(c(vec, v(1)), pi(c(vec, v(2)), typ())), nil)
	x.expectType(t, "{x:nat} plus x a b", pi(n, c(plus, v(0), v(2), v(1))), nil)
	x.expectType(t, "plus M (F b) _", c(plus, m(0), m(1, v(0)), m(2, v(1), v(0))), []api.Meta{named("M", n), named("F", arrows(1)), hole(arrows(2))})
	want := pi(n, pi(c(vec, m(0, v(0), v(2))), c(vec, m(1, v(3), v(2), v(1)))))
	x.expectType(t, "{x:nat} vec (F x a) -> vec _", want, []api.Meta{named("F", arrows(2)), hole(arrows(3))})
	x.expectNoType(t, api.ErrLevel, "a", "[x] nat", "_", "type -> nat", "M", "a b")
	x.expectNoType(t, api.ErrOpen, "{x} nat", "vec (F (s a))", "vec (F a a)")
	x.expectNoType(t, api.ErrShape, "vec", "vec a b")
	x.expectNoType(t, api.ErrName, "k", "vec x")
}

// P10.2: names of variables may be any strings; the innermost variable is meant

func TestNamesOfVariables(t *testing.T) {
	n := c(nat)
	numbers("a", "a").expectObject(t, "a", n, v(0), nil)
	numbers("M", "a").expectObject(t, "M", n, v(1), nil)
	numbers("z", "", "type", "0 %", "a").expectObject(t, "z", n, v(4), nil)
	numbers("a", "b").with(named("A", n)).expectObject(t, "A", n, m(0), []api.Meta{named("A", n)})
	numbers("A").with(named("A", n)).expectObject(t, "A", n, v(0), []api.Meta{named("A", n)})
	numbers("b").expectObject(t, "[b] b", arrows(1), lam(v(0)), nil)
	numbers("s").expectError(t, n, api.ErrShape, "s z")
}

// P10.2: metavariables that are known

func TestKnownMetas(t *testing.T) {
	n := c(nat)
	metas := []api.Meta{named("F", arrows(1)), hole(n), named("N", n)}
	x := numbers("a").with(metas...)
	x.expectObject(t, "F a", n, m(0, v(0)), metas)
	x.expectObject(t, "F z", n, m(0, c(z)), metas)
	x.expectObject(t, "F (F N)", n, m(0, m(0, m(2))), metas)
	x.expectObject(t, "F", arrows(1), lam(m(0, v(0))), metas)
	x.expectObject(t, "s K", n, c(s, m(3)), append(slices.Clip(metas), named("K", n)))
	x.expectObject(t, "_", n, m(3, v(0)), append(slices.Clip(metas), hole(arrows(1))))
	x.expectError(t, n, api.ErrShape, "F", "N a", "F a a", "F s")
	x.expectError(t, n, api.ErrClash, "F empty")
	// What is solved is resolved in the end, in the state as well.
	metas = []api.Meta{solved(arrows(1), lam(c(s, v(0)))), solved(n, m(2)), solved(n, c(z)), named("N", c(vec, m(1)))}
	metas[0].Name, metas[2].Name = "F", "Z"
	want := slices.Clone(metas)
	want[1].Value, want[3].Class = c(z), c(vec, c(z))
	x = numbers("a").with(metas...)
	x.expectObject(t, "F (F a)", n, c(s, c(s, v(0))), want)
	x.expectObject(t, "F Z", n, c(s, c(z)), want)
	x.expectType(t, "vec (F Z)", c(vec, c(s, c(z))), want)
	x.expectObject(t, "N", c(vec, c(z)), m(3), want)
	x.expectObject(t, "N", c(vec, m(1)), m(3), want)
	x.expectType(t, "type", typ(), want)
	x.expectObject(t, "_", n, m(4, v(0)), append(slices.Clip(want), hole(arrows(1))))
	x.expectObject(t, "cons a N", c(vec, m(0, m(1))), c(cons, c(z), v(0), m(3)), append(want, solved(arrows(1), lam(c(z)))))
	x.expectError(t, n, api.ErrShape, "Z Z", "Z a")
	// What is left of a class is resolved before its TPis are counted.
	metas = []api.Meta{solved(n, arrows(1))}
	x = setting{sig: whole(), ctx: []api.Term{m(0)}, names: []string{"a"}}.with(metas...)
	x.expectObject(t, "a z", n, v(0, c(z)), metas)
	x.expectObject(t, "a", m(0), lam(v(1, v(0))), metas)
	x.expectError(t, n, api.ErrShape, "a", "a z z")
}

// P10.2: the first use of a capital name

func TestFirstUse(t *testing.T) {
	n := c(nat)
	// a:nat, l:vec a, f:nat -> nat, g:{x:nat} vec x
	x := setting{sig: whole(), ctx: []api.Term{n, c(vec, v(0)), arrows(1), pi(n, c(vec, v(0)))}, names: []string{"a", "l", "f", "g"}}
	x.expectObject(t, "K a l", n, m(0, v(3), v(2)), []api.Meta{named("K", to(n, c(vec, v(0)), n))})
	x.expectObject(t, "K f a", n, m(0, lam(v(2, v(0))), v(3)), []api.Meta{named("K", to(arrows(1), n, n))})
	x.expectObject(t, "K g a l", n, m(0, lam(v(1, v(0))), v(3), v(2)), []api.Meta{named("K", to(pi(n, c(vec, v(0))), n, c(vec, v(0)), n))})
	x.expectObject(t, "K a f", c(vec, v(3)), m(0, v(3), lam(v(2, v(0)))), []api.Meta{named("K", to(n, arrows(1), c(vec, v(1))))})
	x.expectObject(t, "K a", to(n, c(vec, v(4))), lam(m(0, v(4), v(0))), []api.Meta{named("K", to(n, n, c(vec, v(1))))})
	x.expectObject(t, "K f", c(vec, v(1, c(z))), m(0, lam(v(2, v(0)))), []api.Meta{named("K", to(arrows(1), c(vec, v(0, c(z)))))})
	x.expectObject(t, "[y] K y", pi(n, c(vec, v(0))), lam(m(0, v(0))), []api.Meta{named("K", pi(n, c(vec, v(0))))})
	// Each type may contain the variables before it, and the result all of them.
	x.expectError(t, n, api.ErrScope, "K l", "K l a", "K f l")
	x.expectError(t, c(vec, v(3)), api.ErrScope, "K", "K f", "K g f")
	x.expectError(t, to(n, c(vec, v(4))), api.ErrScope, "K", "K f")
	x.expectError(t, pi(n, c(vec, v(0))), api.ErrScope, "[y] K", "[y] K a")
	// The arguments are different variables.
	x.expectError(t, n, api.ErrOpen, "K z", "K (s a)", "K a a", "K a l a", "K _", "K ([y] y)", "K ([a] a)", "K ({a:nat} nat)", "K K", "K N", "K k", "K type", "K (K a)", "K nat", "K a (f a)")
	x.expectError(t, n, api.ErrOpen, "K l z", "K l a (s a)", "K l l")
	// They are still arguments: a variable that has been written may be a function.
	x.expectObject(t, "K (f)", n, m(0, lam(v(2, v(0)))), []api.Meta{named("K", to(arrows(1), n))})
	// What is solved meanwhile counts.
	metas := []api.Meta{solved(arrows(1), lam(c(z))), solved(n, c(s, c(z)))}
	x.problem.Metas = metas
	x.ctx = append(slices.Clip(x.ctx), c(vec, m(0, v(3))))
	x.names = append(slices.Clip(x.names), "e")
	x.expectObject(t, "K e", c(vec, m(0, v(4))), m(2, v(0)), append(slices.Clip(metas), named("K", to(c(vec, c(z)), c(vec, c(z))))))
	x.expectObject(t, "K", c(vec, m(1)), m(2), append(slices.Clip(metas), named("K", c(vec, c(s, c(z))))))
}

// P10.2: equations that are left

func TestLeft(t *testing.T) {
	n := c(nat)
	metas := []api.Meta{named("F", arrows(1)), named("N", n)}
	x := numbers("a").with(metas...)
	waits := api.Equation{Ctx: nats(1), A: c(z), B: m(0, c(z)), Class: n}
	// What is left of a class is the first one, and what was written.
	x.expectObject(t, "empty", c(vec, m(0, c(z))), c(empty), metas, waits)
	domain := api.Equation{Ctx: nats(1), A: m(0, c(z)), B: v(0), Class: n}
	x.expectObject(t, "[x:vec (F z)] a", pi(c(vec, v(0)), n), lam(v(1)), metas, domain)
	// With what is demanded they are worked on again, before it; otherwise they stay.
	y := x.waiting(waits)
	y.expectObject(t, "a", n, v(0), metas, waits)
	y.expectObject(t, "empty", c(vec, m(0, c(s, c(z)))), c(empty), metas, waits, api.Equation{Ctx: nats(1), A: c(z), B: m(0, c(s, c(z))), Class: n})
	values := []api.Meta{solved(arrows(1), lam(v(0))), metas[1]}
	values[0].Name = "F"
	y.expectObject(t, "[l] l", to(c(vec, m(0, v(0))), c(vec, v(1))), lam(v(0)), values)
	wrong := api.Equation{Ctx: nats(1), A: c(z), B: c(s, c(z)), Class: n}
	y = x.waiting(wrong)
	y.expectType(t, "type", typ(), metas, wrong)
	y.expectObject(t, "_", n, m(2, v(0)), append(slices.Clip(metas), hole(arrows(1))), wrong)
	y.expectError(t, n, api.ErrClash, "a", "z", "s z")
	y.expectError(t, c(tm), api.ErrClash, "a")
	y.expectError(t, typ(), api.ErrLevel, "a")
	y.expectError(t, arrows(1), api.ErrShape, "a")
	// They are resolved in the end, though nothing is demanded.
	metas = append(metas, solved(n, c(s, c(z))))
	unresolved := api.Equation{Ctx: []api.Term{c(vec, m(2))}, A: m(0, m(2)), B: m(2), Class: c(vec, m(2))}
	two := c(s, c(z))
	resolved := api.Equation{Ctx: []api.Term{c(vec, two)}, A: m(0, two), B: two, Class: c(vec, two)}
	y = numbers("a").with(metas...).waiting(unresolved)
	y.expectType(t, "type", typ(), metas, resolved)
	y.expectObject(t, "_", n, m(3, v(0)), append(slices.Clip(metas), hole(arrows(1))), resolved)
}

// Results are new memory.

func TestMemory(t *testing.T) {
	n := c(nat)
	metas := []api.Meta{named("F", arrows(1)), solved(n, c(s, c(z)))}
	waits := api.Equation{Ctx: []api.Term{c(vec, m(1)), n}, A: m(0, c(s, c(z))), B: c(s, m(1)), Class: c(vec, m(1))}
	x := setting{sig: whole(), ctx: []api.Term{n, c(vec, c(s, v(0)))}, names: []string{"a", "l"}}.with(metas...).waiting(waits)
	a := to(c(vec, c(s, v(1))), c(vec, c(s, c(s, v(2)))))
	p, got, err := x.object(t, "[l] cons (F (s a)) l", a)
	given := append(build.Classes(x.sig), terms(api.Problem{Metas: metas, Left: list(waits)})...)
	given = append(append(given, x.ctx...), a)
	if err != api.OK || !build.Apart(given, append(terms(p), got)) {
		t.Errorf("Object = %v, %v, %d shares memory", p, got, err)
	}
	p, got, err = elab.Type(x.sig, x.problem, x.ctx, x.names, raw(t, "vec (F (s a)) -> {x:vec (F a)} vec N"))
	if err != api.OK || !build.Apart(given, append(terms(p), got)) {
		t.Errorf("Type = %v, %v, %d shares memory", p, got, err)
	}
	list, got, err := elab.Query(x.sig, raw(t, "plus (s M) (s M) (s N)"))
	if err != api.OK || !build.Apart(given, append(build.Parts(list), got)) {
		t.Errorf("Query = %v, %v, %d shares memory", list, got, err)
	}
	got, err = elab.Closed(x.sig, raw(t, "cons (s z) empty"), c(vec, c(s, c(z))))
	if err != api.OK || !build.Apart(given, []api.Term{got}) {
		t.Errorf("Closed = %v, %d shares memory", got, err)
	}
	got, _, err = elab.Class(x.sig, raw(t, "plus (s M) (s M) (s N) -> vec M"))
	if err != api.OK || !build.Apart(given, []api.Term{got}) {
		t.Errorf("Class = %v, %d shares memory", got, err)
	}
	longer, err := elab.Declare(x.sig, "k", raw(t, "plus (s M) (s M) (s N) -> vec M"))
	if err != api.OK || !build.Apart(given, build.Classes(longer)) {
		t.Errorf("Declare = %v, %d shares memory", longer, err)
	}
}

func list(l ...api.Equation) []api.Equation { return l }
