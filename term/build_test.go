package term

import (
	"reflect"
	"slices"
	"testing"

	"truss/api"
)

// P3.4

func TestArrow(t *testing.T) {
	check := func(a, b, want api.Term, wantErr api.Errno) {
		t.Helper()
		got, err := Arrow(a, b)
		if err != wantErr || !equal(got, want) {
			t.Errorf("Arrow(%v, %v) = %v, %d; want %v, %d", a, b, got, err, want, wantErr)
		}
	}
	none := api.Term{}
	check(c(0), c(3, v(0)), pi(c(0), c(3, v(1))), api.OK)
	check(v(0), lam(v(0, v(1))), pi(v(0), lam(v(0, v(2)))), api.OK)
	check(typ(), typ(), pi(typ(), typ()), api.OK)
	check(c(0), v(api.MaxN-1), pi(c(0), v(api.MaxN)), api.OK)
	check(c(0), v(api.MaxN), none, api.ErrFull)
	check(v(api.MaxN), c(0), pi(v(api.MaxN), c(0)), api.OK)
	check(broad(299), broad(300), pi(broad(299), broad(300)), api.OK)
	check(broad(300), broad(300), none, api.ErrFull)
	deep := tower(api.MaxDepth-1, c(0))
	check(deep, c(0), pi(deep, c(0)), api.OK)
	check(c(0), deep, pi(c(0), deep), api.OK)
	check(lam(deep), c(0), none, api.ErrFull)
	check(c(0), lam(deep), none, api.ErrFull)
	wrong(t, func(t *testing.T, x api.Term) {
		check(x, c(0), none, api.ErrArg)
		check(c(0), x, none, api.ErrArg)
		check(x, v(api.MaxN), none, api.ErrArg)
	})
}

func checkSplit(t *testing.T, x api.Term, wantRest api.Term, want ...api.Term) {
	t.Helper()
	domains, rest, err := Split(x)
	if err != api.OK || !slices.EqualFunc(domains, want, equal) || !equal(rest, wantRest) {
		t.Errorf("Split(%v) = %v, %v, %d; want %v, %v", x, domains, rest, err, want, wantRest)
	}
}

func TestSplit(t *testing.T) {
	checkSplit(t, typ(), typ())
	checkSplit(t, lam(pi(c(0), c(1))), lam(pi(c(0), c(1))))
	checkSplit(t, pi(c(0), pi(c(3, v(0)), typ())), typ(), c(0), c(3, v(0)))
	checkSplit(t, pi(pi(c(0), c(1)), c(2, v(0))), c(2, v(0)), pi(c(0), c(1)))
	checkSplit(t, pi(c(0), lam(pi(c(1), c(2)))), lam(pi(c(1), c(2))), c(0))
	wrong(t, func(t *testing.T, x api.Term) {
		if domains, rest, err := Split(x); len(domains) > 0 || !isZero(rest) || err != api.ErrArg {
			t.Errorf("Split = %v, %v, %d", domains, rest, err)
		}
	})
}

func checkJoin(t *testing.T, domains []api.Term, x, want api.Term, wantErr api.Errno) {
	t.Helper()
	if got, err := Join(domains, x); err != wantErr || !equal(got, want) {
		t.Errorf("Join(%v, %v) = %v, %d; want %v, %d", domains, x, got, err, want, wantErr)
	}
}

func TestJoin(t *testing.T) {
	none := api.Term{}
	checkJoin(t, nil, typ(), typ(), api.OK)
	checkJoin(t, []api.Term{c(0), c(3, v(0))}, v(1), pi(c(0), pi(c(3, v(0)), v(1))), api.OK)
	checkJoin(t, []api.Term{c(0)}, pi(c(1), c(2)), pi(c(0), pi(c(1), c(2))), api.OK)
	checkJoin(t, []api.Term{broad(199), broad(200)}, broad(199), pi(broad(199), pi(broad(200), broad(199))), api.OK)
	checkJoin(t, []api.Term{broad(200), broad(200)}, broad(199), none, api.ErrFull)
	checkJoin(t, []api.Term{tower(api.MaxDepth, c(0))}, c(0), none, api.ErrFull)
	many := slices.Repeat([]api.Term{c(0)}, api.MaxDepth)
	if got, err := Join(many[1:], c(1)); err != api.OK || Check(got) != api.OK {
		t.Errorf("Join of %d domains: %d", len(many)-1, err)
	}
	checkJoin(t, many[1:], c(1, c(1)), none, api.ErrFull)
	checkJoin(t, many, c(1), none, api.ErrFull)
	large := slices.Repeat([]api.Term{broad(api.MaxNodes)}, 3000)
	checkJoin(t, large, c(1), none, api.ErrFull)
	wrong(t, func(t *testing.T, x api.Term) {
		checkJoin(t, nil, x, none, api.ErrArg)
		checkJoin(t, []api.Term{x}, c(0), none, api.ErrArg)
		checkJoin(t, []api.Term{c(0), x}, c(0), none, api.ErrArg)
		checkJoin(t, append(slices.Clone(many), x), c(0), none, api.ErrArg)
		checkJoin(t, many, x, none, api.ErrArg)
	})
}

func TestJoinOfSplit(t *testing.T) {
	for _, x := range terms(200) {
		x = pi(c(1), x)
		domains, rest, err := Split(x)
		if err != api.OK || len(domains) == 0 || rest.Op == api.TPi {
			t.Fatalf("Split(%v) = %v, %v, %d", x, domains, rest, err)
		}
		checkJoin(t, domains, rest, x, api.OK)
	}
}

func TestBuildingIsNew(t *testing.T) {
	a, b := c(1, v(0), v(1)), pi(c(2, v(0)), pi(c(3, v(1)), c(4, v(2))))
	arrow, _ := Arrow(a, b)
	checkNew(t, []api.Term{a, b}, &arrow)
	same, _ := Arrow(a, a)
	checkNew(t, []api.Term{a}, &same)
	domains, rest, _ := Split(b)
	checkNew(t, []api.Term{b}, &domains[0], &domains[1], &rest)
	_, rest, _ = Split(a)
	checkNew(t, []api.Term{a}, &rest)
	joined, _ := Join([]api.Term{a, a}, b)
	checkNew(t, []api.Term{a, b}, &joined)
	joined, _ = Join(nil, b)
	checkNew(t, []api.Term{b}, &joined)
	joined, _ = Join([]api.Term{a, a}, b)
	spoil(&joined.Args[0])
	if !equal(joined.Args[1].Args[0], a) {
		t.Error("two domains share memory")
	}
}

// P3.5

func simple(con int, args ...api.Simple) api.Simple { return api.Simple{Con: con, Args: args} }

func TestSimple(t *testing.T) {
	check := func(x api.Term, want api.Simple, wantErr api.Errno) {
		t.Helper()
		got, err := Simple(x)
		if err != wantErr || !reflect.DeepEqual(got, want) {
			t.Errorf("Simple(%v) = %v, %d; want %v, %d", x, got, err, want, wantErr)
		}
	}
	none := api.Simple{}
	check(c(5), simple(5), api.OK)
	check(c(5, v(0), typ(), lam(c(1))), simple(5), api.OK)
	check(pi(c(1), pi(c(2, v(0)), c(3, v(1)))), simple(3, simple(1), simple(2)), api.OK)
	check(pi(c(1), pi(pi(c(2), c(1)), c(1))), simple(1, simple(1), simple(1, simple(2))), api.OK)
	check(pi(pi(pi(c(1), c(2)), c(3)), c(4)), simple(4, simple(3, simple(2, simple(1)))), api.OK)
	wrongs := []api.Term{typ(), v(0), m(0), v(0, c(1)), lam(c(1))}
	for _, x := range wrongs {
		check(x, none, api.ErrLevel)
		check(pi(x, c(1)), none, api.ErrLevel)
		check(pi(c(1), x), none, api.ErrLevel)
		check(pi(c(1), pi(pi(c(1), x), c(1))), none, api.ErrLevel)
	}
	wrong(t, func(t *testing.T, x api.Term) { check(x, none, api.ErrArg) })
}

func simpleTower(depth, con int) api.Simple {
	s := simple(con)
	for range depth {
		s = simple(0, s)
	}
	return s
}

func TestSameSimple(t *testing.T) {
	list := []api.Simple{
		simple(0), simple(1), simple(-1), simple(0, simple(0)), simple(1, simple(0)), simple(0, simple(1)),
		simple(0, simple(0), simple(1)), simple(0, simple(1), simple(0)), simple(0, simple(0, simple(1))),
		simple(0, simple(0, simple(0)), simple(0)), simple(0, simple(0), simple(0, simple(0))),
		simpleTower(1<<17, 0), simpleTower(1<<17, 1),
	}
	for i, a := range list {
		for k, b := range list {
			if same := SameSimple(a, b); same != (i == k) {
				t.Errorf("SameSimple of %d and %d: %t", i, k, same)
			}
		}
	}
	if !SameSimple(simpleTower(1<<17, 2), simpleTower(1<<17, 2)) {
		t.Error("deep simple types are not the same")
	}
	if !SameSimple(api.Simple{}, api.Simple{Args: []api.Simple{}}) {
		t.Error("nil and empty lists are not the same")
	}
}

// P3.6

func TestCompare(t *testing.T) {
	// Ascending: Op, Head, N, the number of Args, the Args.
	list := []api.Term{
		typ(),
		pi(typ(), c(0)), pi(v(0), typ()), pi(c(0), c(0)), pi(c(0), c(1)), pi(c(1), c(0)),
		lam(typ()), lam(c(0)), lam(c(1)),
		v(0), v(0, m(9)), v(0, v(0), v(0)), v(1), v(api.MaxN, v(0)),
		c(0), c(0, v(5)), c(0, c(0)), c(0, c(0, c(0))), c(0, c(1)), c(0, typ(), c(1)), c(0, c(0), c(1)), c(0, c(0), c(2)),
		c(0, c(1), c(0)), c(2), m(0), m(1),
	}
	for i, a := range list {
		for k, b := range list {
			want := 0
			if i < k {
				want = -1
			} else if i > k {
				want = 1
			}
			if got, err := Compare(a, b); got != want || err != api.OK {
				t.Errorf("Compare(%v, %v) = %d, %d; want %d", a, b, got, err, want)
			}
		}
	}
	wrong(t, func(t *testing.T, x api.Term) {
		for _, pair := range [][2]api.Term{{x, c(0)}, {c(0), x}} {
			if got, err := Compare(pair[0], pair[1]); got != 0 || err != api.ErrArg {
				t.Errorf("Compare = %d, %d", got, err)
			}
		}
	})
}

func TestCompareIsAnOrder(t *testing.T) {
	list := terms(120)
	compare := func(a, b api.Term) int {
		order, _ := Compare(a, b)
		return order
	}
	slices.SortFunc(list, compare)
	for i, a := range list {
		for k, b := range list {
			order := compare(a, b)
			if order != -compare(b, a) || i < k && order > 0 || (order == 0) != equal(a, b) {
				t.Errorf("Compare(%v, %v) = %d", a, b, order)
			}
		}
	}
}
