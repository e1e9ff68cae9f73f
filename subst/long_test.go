package subst

import (
	"testing"

	"truss/api"
	"truss/term"
)

// P4.2

func checkLong(t *testing.T, head, n int, simple api.Simple, want api.Term, wantErr api.Errno) {
	t.Helper()
	got, err := Long(head, n, simple)
	check(t, "Long", got, err, want, wantErr)
}

func TestLong(t *testing.T) {
	o := con(0)
	f := to(o, o)
	none := api.Term{}
	check := func(head, n int, simple api.Simple, want api.Term) {
		t.Helper()
		checkLong(t, head, n, simple, want, api.OK)
	}
	check(api.HVar, 0, to(f, o), lam(v(1, lam(v(1, v(0))))))
	check(api.HVar, 5, o, v(5))
	check(api.HCon, 5, o, c(5))
	check(api.HMeta, 5, o, meta(5))
	check(api.HVar, 5, f, lam(v(6, v(0))))
	check(api.HCon, 5, f, lam(c(5, v(0))))
	check(api.HMeta, 0, to(o, o, o), lam(lam(meta(0, v(1), v(0)))))
	check(api.HVar, 1, to(o, f, o), lam(lam(v(3, v(1), lam(v(1, v(0)))))))
	check(api.HCon, 1, to(f, o, o), lam(lam(c(1, lam(v(2, v(0))), v(0)))))
	check(api.HCon, 1, to(to(f, o, o), o), lam(c(1, lam(lam(v(2, lam(v(2, v(0))), v(0)))))))
	check(api.HVar, api.MaxN-1, f, lam(v(api.MaxN, v(0))))
	checkLong(t, api.HVar, api.MaxN, f, none, api.ErrFull)
	check(api.HVar, api.MaxN, o, v(api.MaxN))
	check(api.HCon, api.MaxN, f, lam(c(api.MaxN, v(0))))
	check(api.HMeta, api.MaxN, f, lam(meta(api.MaxN, v(0))))
}

func TestLongFull(t *testing.T) {
	// A simple type with n Args has a long form with 2 n + 1 nodes, nested n + 2 deep.
	for count, want := range map[int]api.Errno{39: api.OK, 40: api.ErrFull, 299: api.ErrFull, api.MaxNodes: api.ErrFull} {
		got, err := Long(api.HCon, 0, flat(count))
		if err != want || want == api.ErrFull && !isZero(got) {
			t.Errorf("Long at %d constants: %d", count, err)
		}
	}
	// Each of the constants but the innermost one is nested two deeper.
	for count, want := range map[int]api.Errno{20: api.OK, 21: api.ErrFull, api.MaxNodes: api.ErrFull} {
		if _, err := Long(api.HVar, 0, steep(count)); err != want {
			t.Errorf("Long at %d constants, steep: %d", count, err)
		}
	}
	// Each Arg with 19 Args has a long form of 39 nodes: 15 of them with 15 TLams and the head are 601.
	large := api.Simple{}
	for range 15 {
		large.Args = append(large.Args, flat(20))
	}
	checkLong(t, api.HCon, 0, large, api.Term{}, api.ErrFull)
	large.Args[3] = flat(19)
	if got, err := Long(api.HCon, 0, large); err != api.OK || term.Check(got) != api.OK {
		t.Errorf("Long at a large simple type: %d", err)
	}
}

// P4.5

func checkShort(t *testing.T, x api.Term, wantHead, wantN int, want api.Errno) {
	t.Helper()
	if head, n, err := Short(x); head != wantHead || n != wantN || err != want {
		t.Errorf("Short(%v) = %d, %d, %d; want %d, %d, %d", x, head, n, err, wantHead, wantN, want)
	}
}

func TestShort(t *testing.T) {
	checkShort(t, v(4), api.HVar, 4, api.OK)
	checkShort(t, c(4), api.HCon, 4, api.OK)
	checkShort(t, meta(0), api.HMeta, 0, api.OK)
	checkShort(t, lam(v(4, v(0))), api.HVar, 3, api.OK)
	checkShort(t, lam(v(1, v(0))), api.HVar, 0, api.OK)
	checkShort(t, lam(lam(meta(4, v(1), v(0)))), api.HMeta, 4, api.OK)
	checkShort(t, lam(v(1, lam(v(1, v(0))))), api.HVar, 0, api.OK)
	checkShort(t, lam(lam(c(0, lam(v(2, v(0))), lam(lam(v(2, v(1), v(0))))))), api.HCon, 0, api.OK)
}

func TestShortNone(t *testing.T) {
	wrong := []api.Term{
		typ(), pi(c(0), c(0)), lam(typ()), lam(pi(c(0), c(0))),
		c(0, c(1)), v(1, v(0)), lam(v(0)), lam(c(0)), lam(c(0, c(0))), lam(meta(0, v(0), v(0))),
		lam(v(0, v(0))),                       // its head is bound within it
		lam(c(0, v(1))),                       // free, not bound
		lam(lam(c(0, v(0), v(1)))),            // in the other order
		lam(lam(c(0, v(1), v(1)))),            // twice
		lam(lam(c(0, v(0)))),                  // too few
		lam(c(0, lam(v(0, v(0))))),            // another variable as a head
		lam(c(0, lam(v(1, v(1))))),            // the wrong one as an argument
		lam(c(0, lam(c(0, v(0))))),            // a constant instead
		lam(c(0, meta(0))),                    // with the N of the variable
		lam(c(0, lam(v(1)))),                  // without its argument
		lam(c(0, v(0, v(0)))),                 // without its TLam
		lam(lam(c(0, v(1), lam(v(2, v(0)))))), // the first one for the second one
	}
	for _, x := range wrong {
		checkShort(t, x, 0, 0, api.ErrNone)
	}
}

// P4.8

func TestShortOfLong(t *testing.T) {
	made := maker{seed: 9}
	for i := range 400 {
		head, n, simple := 1+i%3, made.below(50), made.simple()
		long, err := Long(head, n, simple)
		if err != api.OK {
			t.Fatal(err)
		}
		checkShort(t, long, head, n, api.OK)
		checkNew(t, long)
	}
}

// Every made object that Short finds short is the long form of that head at its simple type.
func TestLongOfShort(t *testing.T) {
	made := maker{seed: 10}
	found := 0
	for i := range 3000 {
		ctx, simple := made.context(), made.simple()
		x := made.object(simple, ctx, 1+i%3)
		head, n, err := Short(x)
		if err != api.OK {
			continue
		}
		found++
		checkLong(t, head, n, simple, x, api.OK)
	}
	if found < 150 {
		t.Errorf("only %d are short", found)
	}
}

// P4.3

func TestInstance(t *testing.T) {
	o := c(0)
	none := api.Term{}
	f := pi(o, o)
	plus := pi(o, c(3, c(1), v(0), v(0)))
	checkInstance(t, plus, []api.Term{c(2, c(1))}, c(3, c(1), c(2, c(1)), c(2, c(1))), api.OK)
	checkInstance(t, plus, nil, plus, api.OK)
	checkInstance(t, typ(), nil, typ(), api.OK)
	checkInstance(t, lam(v(3)), []api.Term{}, lam(v(3)), api.OK)
	checkInstance(t, pi(o, typ()), []api.Term{c(1)}, typ(), api.OK)
	checkInstance(t, pi(o, pi(c(4, v(0)), c(5, v(0), v(1), v(2)))), []api.Term{v(0)}, pi(c(4, v(0)), c(5, v(0), v(1), v(1))), api.OK)
	checkInstance(t, pi(o, pi(c(4, v(0)), c(5, v(0), v(1), v(2)))), []api.Term{v(0), v(8)}, c(5, v(8), v(0), v(0)), api.OK)
	checkInstance(t, pi(f, c(3, v(0, c(1)))), []api.Term{lam(c(2, v(0)))}, c(3, c(2, c(1))), api.OK)

	// Step by step: an error of a later step does not count.
	checkInstance(t, c(0), []api.Term{c(1)}, none, api.ErrShape)
	checkInstance(t, plus, []api.Term{c(1), c(1)}, none, api.ErrShape)
	checkInstance(t, lam(o), []api.Term{c(1)}, none, api.ErrShape)
	for _, domain := range []api.Term{typ(), v(0), meta(0), lam(o), pi(o, typ()), pi(v(0), o)} {
		checkInstance(t, pi(domain, o), []api.Term{c(1)}, none, api.ErrLevel)
		checkInstance(t, pi(domain, o), nil, pi(domain, o), api.OK)
		checkInstance(t, pi(domain, o), []api.Term{c(1), c(1)}, none, api.ErrLevel)
	}
	checkInstance(t, pi(o, pi(typ(), o)), []api.Term{c(1)}, pi(typ(), o), api.OK)
	checkInstance(t, pi(o, pi(typ(), o)), []api.Term{c(1), c(1)}, none, api.ErrLevel)
	checkInstance(t, pi(o, pi(typ(), v(1, o))), []api.Term{c(1), c(1)}, none, api.ErrShape)
	checkInstance(t, pi(f, v(0, c(1))), []api.Term{c(1)}, none, api.ErrShape)
	checkInstance(t, pi(f, v(0, c(1))), []api.Term{lam(nodes(api.MaxNodes - 1))}, nodes(api.MaxNodes-1), api.OK)
	checkInstance(t, pi(f, c(3, v(0, c(1)))), []api.Term{lam(nodes(api.MaxNodes - 1))}, c(3, nodes(api.MaxNodes-1)), api.OK)
	checkInstance(t, pi(f, c(3, c(1), v(0, c(1)))), []api.Term{lam(nodes(api.MaxNodes - 1))}, none, api.ErrFull)
	// A domain becomes the type that an object makes of it.
	checkInstance(t, pi(o, pi(v(0), o)), []api.Term{c(7)}, pi(c(7), o), api.OK)
	checkInstance(t, pi(o, pi(v(0), c(9, v(0)))), []api.Term{c(7), c(8)}, c(9, c(8)), api.OK)
}

// P4.4

func TestMany(t *testing.T) {
	o := con(0)
	f := to(o, o)
	oo := []api.Simple{o, o}
	checkMany(t, c(3, v(0), v(1), v(2)), []api.Term{c(1), v(0)}, oo, c(3, c(1), v(0), v(0)), api.OK)
	checkMany(t, c(3, v(0), v(1), v(2)), nil, nil, c(3, v(0), v(1), v(2)), api.OK)
	checkMany(t, typ(), nil, []api.Simple{}, typ(), api.OK)
	// The objects are put all at once: they do not see one another.
	checkMany(t, c(3, v(0), v(1), v(2)), []api.Term{v(0), v(1)}, oo, c(3, v(0), v(1), v(0)), api.OK)
	checkMany(t, c(3, v(0), v(1)), []api.Term{v(1), v(0)}, oo, c(3, v(1), v(0)), api.OK)
	checkMany(t, lam(c(3, v(0), v(1), v(2), v(3))), []api.Term{v(1), v(0)}, oo, lam(c(3, v(0), v(2), v(1), v(1))), api.OK)
	checkMany(t, v(0, v(1)), []api.Term{lam(c(2, v(0), v(5))), v(3)}, []api.Simple{f, o}, c(2, v(3), v(4)), api.OK)
	checkMany(t, v(1, v(0)), []api.Term{v(3), lam(c(2, v(0), v(5)))}, []api.Simple{o, f}, c(2, v(3), v(4)), api.OK)
	checkMany(t, v(1, v(0)), []api.Term{v(3), lam(c(2, v(0), v(5)))}, []api.Simple{f, o}, api.Term{}, api.ErrShape)
}
