package meta_test

import (
	"testing"

	"truss/api"
	"truss/build"
	"truss/maker"
	"truss/meta"
	"truss/term"
)

// P8.1: Check

func TestCheck(t *testing.T) {
	n := c(nat)
	for name, metas := range map[string][]api.Meta{
		"nothing":              nil,
		"the limit":            holes(api.MaxMetas),
		"names":                {named("A", n), named("ABCDEFGHIJKLMNOP", n), hole(n), named("A'", n), hole(n)},
		"later ones":           {hole(c(vec, m(2))), solved(n, m(2)), hole(n)},
		"functions":            {hole(to(to(n, n), n)), solved(to(n, n), lam(c(s, v(0)))), hole(pi(n, c(vec, v(0))))},
		"an empty Value":       {{Class: n, Value: api.Term{Args: []api.Term{}}}},
		"what is not typed":    {solved(c(9999, v0()), lam(typ())), hole(c(vec))},
		"many ways to one":     {hole(n), hole(c(vec, m(0))), hole(c(plus, m(0), m(0), m(4))), solved(c(vec, m(0)), m(1)), solved(n, m(0))},
		"needs a solved one":   {solved(n, c(z)), hole(c(vec, m(0))), solved(c(vec, m(0)), m(1))},
		"a Class of the limit": {hole(c(vec, copies(599, c(z))...))},
		"a deep Class":         {hole(products(39, n))},
		"a long chain":         chain(api.MaxMetas, func(after api.Term) api.Term { return c(s, after) }),
		"a chain with copies":  chain(api.MaxMetas, func(after api.Term) api.Term { return c(s, copies(500, after)...) }),
	} {
		expect(t, name, meta.Check(metas), api.OK)
	}
	for name, metas := range unformed() {
		expect(t, name, meta.Check(metas), api.ErrArg)
	}
}

// v0 returns an object without free variables.
func v0() api.Term { return lam(v(0)) }

// products returns the TPis of so many domains, all of them nat, around a term.
func products(count int, t api.Term) api.Term { return to(append(copies(count, c(nat)), t)...) }

// P8.1: circles, against reachability

func TestCircles(t *testing.T) {
	made := maker.New(nil)
	circles := 0
	for range 5000 {
		count := 1 + made.Below(6)
		reaches := [6][6]bool{}
		metas := make([]api.Meta, count)
		any := func(n int) api.Term {
			needed := made.Below(2 * count)
			if needed >= count {
				return c(z)
			}
			reaches[n][needed] = true
			return c(s, m(needed))
		}
		for n := range metas {
			metas[n] = hole(c(nat, any(n)))
			if made.Below(2) == 0 {
				metas[n] = solved(metas[n].Class, any(n))
			}
		}
		for k := range reaches {
			for i := range reaches {
				for j := range reaches {
					reaches[i][j] = reaches[i][j] || reaches[i][k] && reaches[k][j]
				}
			}
		}
		want := api.OK
		for n := range reaches {
			if reaches[n][n] {
				want = api.ErrArg
			}
		}
		if want != api.OK {
			circles++
		}
		if got := meta.Check(metas); got != want {
			t.Errorf("Check(%v) = %d, want %d", metas, got, want)
		}
	}
	if circles < 1000 || circles > 4000 {
		t.Errorf("%d circles", circles)
	}
}

// P8.1: Typed

func expectTyped(t *testing.T, sig []api.Decl, metas []api.Meta, want int, wantErr api.Errno) {
	t.Helper()
	if got, err := meta.Typed(sig, metas); got != want || err != wantErr {
		t.Errorf("Typed(%v) = %d, %d; want %d, %d", metas, got, err, want, wantErr)
	}
}

func TestTyped(t *testing.T) {
	n := c(nat)
	right := []api.Meta{
		hole(n), named("F", to(n, n)), solved(pi(n, n), lam(c(s, v(0)))), hole(c(vec, m(1, m(0)))), solved(c(vec, c(z)), c(build.Empty)),
		solved(pi(n, c(plus, c(z), v(0), v(0))), lam(c(pz, v(0)))), solved(n, m(7)), solved(n, c(s, m(0))),
	}
	expectTyped(t, whole(), right, len(right), api.OK)
	expectTyped(t, whole(), nil, 0, api.OK)
	expectTyped(t, nil, nil, 0, api.OK)
	expectTyped(t, whole(), holes(api.MaxMetas), api.MaxMetas, api.OK)
	// The kernel takes Classes as they are, not resolved.
	expectTyped(t, whole(), []api.Meta{solved(n, c(z)), solved(c(vec, m(0)), c(build.Empty))}, 1, api.ErrType)
	for want, wrong := range map[api.Errno][]api.Meta{
		api.ErrLevel: {hole(c(z)), solved(n, n), solved(n, typ()), hole(c(vec, n))},
		api.ErrShape: {hole(c(vec)), hole(c(vec, c(z), c(z))), solved(n, c(s)), solved(n, lam(c(z))), solved(to(n, n), c(z))},
		api.ErrType:  {solved(n, c(build.Empty)), hole(c(vec, c(build.Empty))), solved(c(vec, c(s, c(z))), c(build.Empty))},
		api.ErrScope: {hole(c(99)), hole(c(vec, c(99))), solved(n, c(99))},
	} {
		for _, w := range wrong {
			expectTyped(t, whole(), append(right[:6:6], w, hole(n)), 6, want)
		}
	}
}

func TestTypedErrors(t *testing.T) {
	n := c(nat)
	shape, level := hole(c(vec)), solved(n, typ())
	// The first metavariable that has an error decides, its Class before its Value.
	expectTyped(t, whole(), []api.Meta{hole(n), shape, level}, 1, api.ErrShape)
	expectTyped(t, whole(), []api.Meta{hole(n), level, shape}, 1, api.ErrLevel)
	expectTyped(t, whole(), []api.Meta{hole(n), hole(n), solved(c(vec), typ())}, 2, api.ErrShape)
	for _, metas := range unformed() {
		expectTyped(t, whole(), metas, 0, api.ErrArg)
	}
	for _, sig := range [][]api.Decl{{build.Decl("X", typ())}, build.Flat(api.MaxDecls + 1), {build.Decl("a", lam(typ()))}} {
		expectTyped(t, sig, nil, 0, api.ErrArg)
		expectTyped(t, sig, []api.Meta{shape}, 0, api.ErrArg)
	}
}

// Rule 4: arguments stay as they are, and results are new

// expectNew checks that results share no memory, neither with the arguments nor in themselves, and that the arguments stay.
func expectNew(t *testing.T, name string, metas []api.Meta, others []api.Term, change func() ([]api.Meta, []api.Term, api.Errno)) {
	t.Helper()
	arguments := append(build.Parts(metas), others...)
	var before []api.Term
	for _, x := range arguments {
		copied, err := term.Shift(x, 0, 0)
		if err != api.OK {
			copied = x
		}
		before = append(before, copied)
	}
	list, results, err := change()
	expect(t, name, err, api.OK)
	for i, x := range append(build.Parts(metas), others...) {
		if !term.Same(x, before[i]) {
			t.Errorf("%s changes an argument: %v was %v", name, x, before[i])
		}
	}
	if !build.Apart(arguments, append(build.Parts(list), results...)) {
		t.Errorf("%s: results share memory", name)
	}
	if len(list) > 0 && &list[0] == &metas[0] {
		t.Errorf("%s: the list is the argument", name)
	}
}

func TestResultsAreNew(t *testing.T) {
	n := c(nat)
	value := c(s, c(s, c(z)))
	room := []api.Meta{solved(n, value), hole(to(n, n, n)), hole(c(vec, m(0))), solved(to(n, n), lam(m(1, v(0), v(0)))), {}, {}}
	metas := room[:4]
	x := c(plus, m(0), m(3, m(0)), m(1, m(0), m(0)))
	a := pi(c(vec, m(0)), pi(c(vec, m(1, m(0), m(0))), c(vec, m(0))))
	ctx := []api.Term{n, c(vec, v(0))}
	expectNew(t, "Resolve", metas, []api.Term{x}, func() ([]api.Meta, []api.Term, api.Errno) {
		got, err := meta.Resolve(metas, x)
		return nil, []api.Term{got}, err
	})
	expectNew(t, "All", metas, nil, func() ([]api.Meta, []api.Term, api.Errno) {
		list, err := meta.All(metas)
		return list, nil, err
	})
	expectNew(t, "Fresh", metas, append(ctx, a), func() ([]api.Meta, []api.Term, api.Errno) {
		list, object, err := meta.Fresh(metas, "A", ctx, a)
		return list, []api.Term{object}, err
	})
	expectNew(t, "Solve", metas, []api.Term{value}, func() ([]api.Meta, []api.Term, api.Errno) {
		list, err := meta.Solve(metas, 2, value)
		return list, nil, err
	})
	expectNew(t, "Abstract", metas, []api.Term{a}, func() ([]api.Meta, []api.Term, api.Errno) {
		got, _, err := meta.Abstract(metas, a)
		return nil, []api.Term{got}, err
	})
	for count := range 3 {
		expectNew(t, "Open", metas, append(ctx, a), func() ([]api.Meta, []api.Term, api.Errno) {
			list, objects, rest, err := meta.Open(metas, ctx, a, count)
			return list, append(objects, rest), err
		})
	}
	if room[4].Name != "" || room[4].Class.Op != 0 {
		t.Errorf("something is written behind a list: %v", room[4:])
	}
}
