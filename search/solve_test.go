package search_test

import (
	"testing"

	"truss/api"
	"truss/build"
	"truss/term"
	"truss/written"
)

// in returns a goal in a context that texts write, each one without the variables of the others.
func (g goal) in(t *testing.T, texts ...string) goal {
	t.Helper()
	for _, text := range texts {
		g.ctx = append(g.ctx, goalOf(t, g.sig, text).a)
	}
	return g
}

// P13.2: the order of heads

func TestHeadOrder(t *testing.T) {
	sig := written.Sig("a : type. b : type. k1 : b. k2 : a. f : a -> a. k3 : a.")
	a := goalOf(t, sig, "a")
	a.expect(t, 1, 9, answer{proofs: []string{"k2", "k3"}, cut: true})
	a.in(t, "a", "b", "a").expect(t, 1, 9, answer{proofs: []string{"x3", "x1", "k2", "k3"}, cut: true})
	a.in(t, "b -> a", "a").expect(t, 1, 9, answer{proofs: []string{"x2", "k2", "k3"}, cut: true})
	a.in(t, "b -> a", "a").expect(t, 2, 9, answer{proofs: []string{"x2", "x1 k1", "k2", "f x2", "f k2", "f k3", "k3"}, cut: true})
	goalOf(t, sig, "a -> b -> a").expect(t, 1, 9, answer{proofs: []string{"[x1] [x2] x1", "[x1] [x2] k2", "[x1] [x2] k3"}, cut: true})
	goalOf(t, sig, "a -> a -> a").in(t, "a").expect(t, 1, 9, answer{
		proofs: []string{"[x2] [x3] x3", "[x2] [x3] x2", "[x2] [x3] x1", "[x2] [x3] k2", "[x2] [x3] k3"}, cut: true,
	})
	goalOf(t, sig, "(a -> a) -> b").expect(t, 2, 9, answer{proofs: []string{"[x1] k1"}})
	goalOf(t, sig, "(b -> a) -> a").expect(t, 2, 3, answer{proofs: []string{"[x1] x1 k1", "[x1] k2", "[x1] f k2"}, cut: true})
}

// P13.2: premises are derived from the last one to the first one; each result of one is followed by all of those before it

func TestPremiseOrder(t *testing.T) {
	sig := written.Sig("a : type. a1 : a. a2 : a. b : type. b1 : b. b2 : b. p : type. f : a -> b -> p. g : a -> p. q : p -> a -> p -> type.")
	goalOf(t, sig, "p").expect(t, 2, 9, answer{proofs: []string{"f a1 b1", "f a2 b1", "f a1 b2", "f a2 b2", "g a1", "g a2"}})
	goalOf(t, sig, "p").expect(t, 1, 9, answer{cut: true})
	goalOf(t, sig, "a -> p").expect(t, 2, 3, answer{proofs: []string{"[x1] f x1 b1", "[x1] f a1 b1", "[x1] f a2 b1"}})
	// What one premise finds, the one before it has.
	sig = written.Sig(numbers + "two : nat -> type. t : two N <- plus N N N <- plus N X (s z). u : two N <- plus N X (s z) <- plus N N N.")
	two := goalOf(t, sig, "two X")
	got := two.expect(t, 3, 9, answer{proofs: []string{"t z (s z) (pz (s z)) (pz z)", "u z (s z) (pz z) (pz (s z))"}, cut: true})
	for _, found := range got.List {
		if valuesOf(two, found) != "z" {
			t.Errorf("two X is solved by %s", valuesOf(two, found))
		}
	}
}

// P13.2: dependent arguments become metavariables, in the context

func TestDependent(t *testing.T) {
	sig := written.Sig(numbers)
	// plus z x (F x): the new metavariable comes after F, and has the context around its type.
	g := goal{sig, []api.Meta{named("F", arrows(1))}, nats(1), c(plus, c(z), v(0), m(0, v(0)))}
	got := g.expect(t, 1, 9, answer{proofs: []string{"pz x1"}})
	identity := api.Meta{Class: arrows(1), Solved: true, Value: lam(v(0))}
	want := []api.Meta{identity, identity}
	want[0].Name = "F"
	if len(got.List) == 1 && !build.SameMetas(got.List[0].Metas, want) {
		t.Errorf("the metavariables are %v, want %v", got.List[0].Metas, want)
	}
	// Those that nothing decides stay in the solution.
	got = goalOf(t, sig, "plus (s z) (s X) Y").expect(t, 2, 9, answer{proofs: []string{"ps z (s X) (s X) (pz (s X))"}})
	if len(got.List) == 1 && (len(got.List[0].Metas) != 6 || got.List[0].Metas[0].Solved) {
		t.Errorf("the metavariables are %v", got.List[0].Metas)
	}
	// Variables of the context are rules, too.
	sig = written.Sig(numbers + "e : nat -> nat -> type. ex : nat -> type.")
	goalOf(t, sig, "e (s z) X").in(t, "{x:nat} e x (s x)").expect(t, 1, 9, answer{proofs: []string{"x1 (s z)"}})
	goalOf(t, sig, "e z z").in(t, "{x:nat} {y:nat} e y x -> e x y", "e z z").expect(t, 2, 9, answer{proofs: []string{"x2", "x1 z z x2"}, cut: true})
	goalOf(t, sig, "e z z").in(t, "{x:nat} ex x -> e z z", "ex (s z)").expect(t, 2, 9, answer{proofs: []string{"x1 (s z) x2"}})
	goalOf(t, sig, "({x:nat} e x x) -> e (s z) X").expect(t, 1, 9, answer{proofs: []string{"[x1] x1 (s z)"}})
	goalOf(t, sig, "{x:nat} {y:nat} e x y -> {z:nat} e x z").expect(t, 1, 9, answer{})
	goalOf(t, sig, "{x:nat} {y:nat} e x y -> e x X").expect(t, 1, 9, answer{})
	goalOf(t, sig, "{x:nat} {y:nat} e x y -> e x _").expect(t, 1, 9, answer{proofs: []string{"[x1] [x2] [x3] x3"}})
}

// P13.2: what is left of a class, and the goal, cannot be equal

func TestNoResults(t *testing.T) {
	sig := written.Sig(numbers + "e : nat -> nat -> type. r : e N N. ez : e z z.")
	e := written.Constant(sig, "e")
	// ErrClash; ErrScope, as N is no variable of the context.
	goalOf(t, sig, "e z (s z)").expect(t, 1, 9, answer{})
	goalOf(t, sig, "e X (s X)").expect(t, 1, 9, answer{})
	goal{sig, []api.Meta{named("N", c(nat))}, nats(1), c(e, m(0), v(0))}.expect(t, 1, 9, answer{})
	goal{sig, []api.Meta{named("N", c(nat))}, nats(1), c(e, m(0), c(z))}.expect(t, 1, 9, answer{proofs: []string{"r z", "ez"}})
	// ErrShape: there are constants of any form.
	odd := append(sig, decl("k", c(e, c(z))), decl("l", c(e, c(z), lam(v(0)))), decl("last", c(e, c(z), c(z))))
	got, err := goal{sig: odd, a: c(e, c(z), c(z))}.solve(1, 9)
	if err != api.OK || len(got.List) != 3 || !term.Same(got.List[2].Proof, c(len(odd)-1)) || got.Cut || got.Stuck != 0 {
		t.Errorf("Solve = %v, %d", got, err)
	}
	for _, a := range []api.Term{c(e), c(e, c(z)), c(e, c(z), c(z), c(z))} {
		if got, err := (goal{sig: odd[:len(sig)], a: a}).solve(3, 9); err != api.OK || !isNothing(got) {
			t.Errorf("Solve of %v = %v, %d", a, got, err)
		}
	}
}

// P13.2: a goal that is cut

func TestCut(t *testing.T) {
	sig := written.Sig(numbers + "void : type. v : void -> nat -> nat.")
	nat := goalOf(t, sig, "nat")
	nat.expect(t, 0, 1, answer{cut: true})
	// What comes after the last solution that is returned is not looked at.
	nat.expect(t, 1, 1, answer{proofs: []string{"z"}})
	nat.expect(t, 1, 2, answer{proofs: []string{"z"}, cut: true})
	nat.expect(t, 2, 2, answer{proofs: []string{"z", "s z"}})
	nat.expect(t, 2, 3, answer{proofs: []string{"z", "s z"}, cut: true})
	// Whatever the family is: without heads, too.
	goalOf(t, sig, "void").expect(t, 0, 1, answer{cut: true})
	goalOf(t, sig, "void").expect(t, 1, 1, answer{})
	goalOf(t, sig, "plus (s z) z z").expect(t, 0, 1, answer{cut: true})
	goalOf(t, sig, "plus (s z) z z").expect(t, 1, 1, answer{})
	two := goalOf(t, sig, "plus (s z) z (s (s z))")
	two.expect(t, 0, 1, answer{cut: true})
	two.expect(t, 1, 1, answer{cut: true})
	two.expect(t, 2, 1, answer{})
	// Below binders, and in a premise.
	goalOf(t, sig, "nat -> nat").expect(t, 0, 9, answer{cut: true})
	goalOf(t, sig, "nat -> nat").expect(t, 1, 9, answer{proofs: []string{"[x1] x1", "[x1] z"}, cut: true})
	// What is neither a TPi nor a family is not cut.
	for _, a := range []api.Term{typ(), pi(c(0), typ()), lam(c(0)), v(0), v(7), c(z), c(s, c(0)), c(len(sig)), c(api.MaxN), m(0), pi(c(0), m(1))} {
		for _, depth := range []int{0, 1, api.MaxSearch} {
			goal{sig, []api.Meta{hole(c(0)), hole(arrows(1))}, nats(1), a}.expect(t, depth, 1, answer{})
		}
	}
}

// P13.2: results with equations that are left

func TestStuck(t *testing.T) {
	rest := "nat : type. z : nat. s : nat -> nat. p : nat -> type. q : (nat -> nat) -> type. r : type. "
	sig := written.Sig(rest + "p1 : p z. p2 : p N. p3 : p (s z).")
	p := goal{sig: sig, metas: []api.Meta{named("F", arrows(1))}, a: c(3, m(0, c(z)))}
	p.expect(t, 1, 1, answer{proofs: []string{"p2 (F z)"}, stuck: 1})
	p.expect(t, 1, 2, answer{proofs: []string{"p2 (F z)"}, stuck: 2})
	p.expect(t, 0, 2, answer{cut: true})
	// An equation that is left is decided as soon as another premise decides it.
	sig = written.Sig(rest + "p1 : p z. q1 : q ([x] x). q2 : q ([x] s x). k : {F:nat -> nat} q F -> p (F z) -> r. l : {F:nat -> nat} p (F z) -> q F -> r.")
	goalOf(t, sig, "r").expect(t, 2, 9, answer{proofs: []string{"k ([x1] x1) q1 p1", "l ([x1] x1) p1 q1"}})
	// Nothing decides it: each of the ways to derive the premises is stuck.
	sig = written.Sig(rest + "p1 : p z. p2 : p (s N) <- p N. k : {F:nat -> nat} p (F z) -> p (F z) -> r.")
	goalOf(t, sig, "r").expect(t, 1, 9, answer{cut: true})
	goalOf(t, sig, "r").expect(t, 2, 9, answer{stuck: 1, cut: true})
	goalOf(t, sig, "r").expect(t, 3, 9, answer{stuck: 4, cut: true})
}

// P13.2: the metavariables are resolved first, and so is each goal

func TestResolvedFirst(t *testing.T) {
	sig := written.Sig(numbers)
	metas := []api.Meta{build.Solved(c(nat), c(s, m(1))), build.Solved(c(nat), c(z)), named("N", c(nat))}
	g := goal{sig: sig, metas: metas, a: c(plus, m(0), m(1), m(2))}
	got := g.expect(t, 2, 9, answer{proofs: []string{"ps z z z (pz z)"}})
	if len(got.List) == 1 && (!term.Same(got.List[0].Metas[0].Value, c(s, c(z))) || !term.Same(got.List[0].Metas[2].Value, c(s, c(z)))) {
		t.Errorf("the metavariables are %v", got.List[0].Metas)
	}
	// A type whose domains have metavariables: the new variable is of the type that is known then.
	sig = written.Sig("nat : type. z : nat. s : nat -> nat. p : nat -> type. q : nat -> type. q1 : q (s z). r : type. k : r <- q N <- (p N -> p (s z)). l : r <- (p N -> p (s z)) <- q N.")
	goalOf(t, sig, "r").expect(t, 2, 9, answer{proofs: []string{"k (s z) ([x1] x1) q1", "l (s z) q1 ([x1] x1)"}})
}
