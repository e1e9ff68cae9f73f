package search_test

import (
	"testing"

	"truss/api"
	"truss/build"
	"truss/load"
	"truss/search"
	"truss/written"
)

// expectHeight checks the height of an object in the context of a goal.
func (g goal) expectHeight(t *testing.T, proof api.Term, want int, wantErr api.Errno) {
	t.Helper()
	if got, err := search.Height(g.sig, g.ctx, proof); got != want || err != wantErr {
		t.Errorf("Height of %v = %d, %d; want %d, %d", proof, got, err, want, wantErr)
	}
}

// P13.4: heights of what sources write

func TestHeight(t *testing.T) {
	sig := written.Sig(numbers + logic + "f : nat -> o -> nat -> o.")
	g := goal{sig: sig}
	for _, x := range []struct {
		object, class string
		want          int
	}{
		{"z", "nat", 1},
		{"s (s z)", "nat", 3},
		{"ps (ps pz)", "plus (s (s z)) z (s (s z))", 3},
		// Dependent arguments do not count.
		{"pz", "plus z (s (s (s z))) (s (s (s z)))", 1},
		{"[x] x", "nat -> nat", 1},
		{"[x] s (s x)", "nat -> nat", 3},
		{"[x] [y] ps pz", "nat -> nat -> plus (s z) z (s z)", 2},
		// The greatest one of all premises.
		{"f z a z", "o", 2},
		{"f (s (s z)) (f z a z) z", "o", 4},
		{"f z (f z a (s z)) (s z)", "o", 4},
		{"imp a (imp a (imp a a))", "o", 4},
		// A variable of the object has no premises.
		{"ii [x] x", "pf (imp a a)", 2},
		{"[f] f (s (s z))", "(nat -> nat) -> nat", 1},
		{"[f] s (f (s (s z)))", "(nat -> nat) -> nat", 2},
		{"[f] f ([x] s x)", "((nat -> nat) -> nat) -> nat", 1},
	} {
		proof, _, err := load.Object(sig, x.object, x.class)
		if err != api.OK {
			t.Errorf("Object of %q: error %d", x.object, err)
		}
		g.expectHeight(t, proof, x.want, api.OK)
	}
}

// P13.4: variables of the context, and any terms

func TestHeightInContext(t *testing.T) {
	f := pi(c(nat), to(c(plus, v(0), v(0), v(0)), c(nat)))
	g := goal{sig: whole(), ctx: []api.Term{f, arrows(2), c(nat), lam(v(3)), typ(), to(m(9), v(99))}}
	const last, kind, function, number, two, dependent = 0, 1, 2, 3, 4, 5
	three := c(s, c(s, c(z)))
	g.expectHeight(t, v(number), 1, api.OK)
	g.expectHeight(t, v(two, three, c(z)), 4, api.OK)
	g.expectHeight(t, v(two, c(z), three), 4, api.OK)
	g.expectHeight(t, v(dependent, three, c(z)), 2, api.OK)
	g.expectHeight(t, v(dependent, typ(), v(two, c(z), c(z))), 3, api.OK)
	g.expectHeight(t, lams(3, v(3+two, v(0), v(3+number))), 2, api.OK)
	// What is bound by the object has no premises, whatever its Args are.
	g.expectHeight(t, lam(v(0, typ(), three)), 1, api.OK)
	g.expectHeight(t, lam(c(s, v(0, m(7)))), 2, api.OK)
	g.expectHeight(t, lams(39, v(38)), 1, api.OK)
	// Types that are none.
	g.expectHeight(t, v(function), 1, api.OK)
	g.expectHeight(t, v(kind), 1, api.OK)
	g.expectHeight(t, v(last, c(z)), 2, api.OK)
	// Families, and arguments of no type; what is dependent is not looked at.
	g.expectHeight(t, c(nat), 1, api.OK)
	g.expectHeight(t, c(vec, c(s, c(nat))), 3, api.OK)
	g.expectHeight(t, c(pz, m(0)), 1, api.OK)
	g.expectHeight(t, c(pz, typ()), 1, api.OK)
	g.expectHeight(t, c(ps, c(s), v(99), c(99), c(pz, c(z, c(z)))), 2, api.OK)
	g.expectHeight(t, c(build.Lambda, lam(c(build.Apply, v(0), c(build.Lambda, lam(v(0)))))), 4, api.OK)
}

// P13.4: errors

func TestHeightErrors(t *testing.T) {
	g := goal{sig: whole(), ctx: []api.Term{arrows(1), c(nat)}}
	for _, x := range []api.Term{m(0), m(0, c(z)), v(2), v(api.MaxN), v(2, typ()), c(len(g.sig)), c(api.MaxN, typ()), lam(v(3)), lam(m(0)), lams(2, c(s, v(4)))} {
		g.expectHeight(t, x, 0, api.ErrScope)
		g.expectHeight(t, c(s, x), 0, api.ErrScope)
	}
	for _, x := range []api.Term{
		c(s), c(s, c(z), c(z)), c(z, c(z)), v(0, c(z)), v(1), v(1, c(z), c(z)), c(pz), c(ps, c(z), c(z), c(z)), c(s, c(s)), lam(v(1, v(0))), c(vec), c(plus, c(z)),
		c(s, m(0), m(0)),
	} {
		g.expectHeight(t, x, 0, api.ErrShape)
	}
	for _, x := range []api.Term{typ(), pi(c(nat), c(nat)), pi(v(99), m(0)), lam(typ()), lam(pi(c(nat), typ())), c(s, typ()), c(s, lam(typ())), v(1, pi(c(nat), c(nat)))} {
		g.expectHeight(t, x, 0, api.ErrLevel)
	}
	// The first premise decides.
	for _, x := range []struct {
		first, second api.Term
		want          api.Errno
	}{{typ(), m(0), api.ErrLevel}, {m(0), typ(), api.ErrScope}, {c(s), typ(), api.ErrShape}, {c(z), typ(), api.ErrLevel}, {c(s, typ()), m(0), api.ErrLevel}} {
		g.expectHeight(t, c(build.Apply, x.first, x.second), 0, x.want)
	}
	goal{}.expectHeight(t, c(0), 0, api.ErrScope)
	goal{}.expectHeight(t, lam(v(0)), 1, api.OK)
}
