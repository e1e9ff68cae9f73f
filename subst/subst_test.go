package subst

import (
	"math"
	"slices"
	"testing"

	"truss/api"
)

// P4.1

func TestSubst(t *testing.T) {
	o := con(0)
	f := to(o, o)
	check := func(x api.Term, n int, s api.Term, simple api.Simple, want api.Term) {
		t.Helper()
		checkSubst(t, x, n, s, simple, want, api.OK)
	}
	check(v(0, c(1)), 0, lam(c(2, v(0))), f, c(2, c(1)))
	check(typ(), 0, c(1), o, typ())
	check(v(0), 0, c(1), o, c(1))
	check(v(0), 0, typ(), o, typ())
	check(v(0), 0, pi(c(0), v(0)), o, pi(c(0), v(0)))
	check(c(4, v(0), meta(5, v(0))), 0, meta(1), o, c(4, meta(1), meta(5, meta(1))))

	// The variables after n stay, those before it are one less, those of s are before it.
	check(c(3, v(0), v(1), v(2), v(3)), 2, c(1), o, c(3, v(0), v(1), c(1), v(2)))
	check(c(3, v(0), v(1), v(2), v(3)), 2, v(0), o, c(3, v(0), v(1), v(2), v(2)))
	check(c(3, v(0), v(1), v(2), v(3)), 1, c(1, v(4)), o, c(3, v(0), c(1, v(5)), v(1), v(2)))
	check(v(api.MaxN), api.MaxN, v(0), o, v(api.MaxN))
	check(v(api.MaxN), api.MaxN, c(0), o, c(0))
	check(v(api.MaxN), 0, c(0), o, v(api.MaxN-1))
	check(v(0), api.MaxN, v(api.MaxN), o, v(0))

	// Below binders n is one more, and s stays as it is meant.
	check(lam(c(3, v(0), v(1), v(2))), 0, v(0), o, lam(c(3, v(0), v(1), v(1))))
	check(pi(v(0), v(1)), 0, c(2, v(0)), o, pi(c(2, v(0)), c(2, v(1))))
	check(pi(v(1), pi(v(1), v(0))), 0, c(2), o, pi(v(0), pi(c(2), v(0))))
	check(lam(lam(c(0, v(3), v(4)))), 1, lam(v(0, v(7))), o, lam(lam(c(0, lam(v(0, v(10))), v(3)))))

	// The spine is substituted in before the application.
	check(v(0, v(0, v(1))), 0, lam(c(2, v(0), v(0))), f, c(2, c(2, v(0), v(0)), c(2, v(0), v(0))))
	check(v(0, c(1), c(2)), 0, lam(lam(c(3, v(0), v(1)))), to(o, o, o), c(3, c(2), c(1)))
	check(v(0, c(1), c(2)), 0, lam(lam(c(3, v(0), v(1), v(2)))), to(o, o, o), c(3, c(2), c(1), v(0)))
	check(v(0, lam(c(2, v(0), v(1)))), 0, lam(v(0, v(0, c(1)))), to(f, o), c(2, c(2, c(1), lam(v(0, v(0, c(1))))), lam(v(0, v(0, c(1))))))
	check(lam(v(1, v(0))), 0, lam(v(1, v(0))), f, lam(v(1, v(0))))
}

func TestSubstLeavesWhatIsNotApplied(t *testing.T) {
	o := con(0)
	f := to(o, o)
	// Without a spine there is no application, whatever the simple type is.
	checkSubst(t, v(0), 0, lam(v(0)), f, lam(v(0)), api.OK)
	checkSubst(t, v(0), 0, lam(v(0)), o, lam(v(0)), api.OK)
	checkSubst(t, v(0), 0, c(0), f, c(0), api.OK)
	// An application may end before the simple type does.
	checkSubst(t, v(0, c(1)), 0, lam(lam(v(1))), to(o, o, o), lam(c(1)), api.OK)
	// The constants of the simple type are of no account.
	checkSubst(t, v(0, c(1)), 0, lam(c(2, v(0))), to(con(7), con(api.MaxN)), c(2, c(1)), api.OK)
	// A head that stays may have any spine.
	checkSubst(t, v(1, v(0), c(3, v(2), v(0))), 0, lam(v(0)), f, v(0, lam(v(0)), c(3, v(1), lam(v(0)))), api.OK)
}

func TestSubstShape(t *testing.T) {
	o := con(0)
	f := to(o, o)
	none := api.Term{}
	checkSubst(t, lam(v(1, v(0, v(2)))), 0, v(4), o, none, api.ErrShape)
	checkSubst(t, v(0, c(1)), 0, c(2), f, none, api.ErrShape)
	checkSubst(t, v(0, c(1)), 0, typ(), f, none, api.ErrShape)
	checkSubst(t, v(0, c(1)), 0, pi(c(0), c(0)), f, none, api.ErrShape)
	checkSubst(t, v(0, c(1)), 0, lam(v(0)), o, none, api.ErrShape)
	checkSubst(t, v(0, c(1), c(1)), 0, lam(v(0)), f, none, api.ErrShape)
	checkSubst(t, v(0, c(1), c(1)), 0, lam(lam(v(0))), f, none, api.ErrShape)
	checkSubst(t, v(0, c(1), c(1)), 0, lam(v(0)), to(o, o, o), none, api.ErrShape)
	checkSubst(t, v(0, lam(v(0)), c(1)), 0, lam(v(0)), to(f, o, o), c(1), api.OK)
	checkSubst(t, v(0, lam(v(0))), 0, lam(v(0, c(1))), to(f, o), c(1), api.OK)
	checkSubst(t, v(0, lam(v(0))), 0, lam(v(0, c(1))), to(o, o), none, api.ErrShape)
	checkSubst(t, c(1, c(2), pi(c(0), v(1, c(3)))), 0, c(1), o, none, api.ErrShape)
}

func TestApply(t *testing.T) {
	o := con(0)
	f := to(o, o)
	none := api.Term{}
	w := lam(v(0, v(0)))
	checkApply(t, w, []api.Term{w}, f, none, api.ErrShape)
	checkApply(t, c(3), nil, o, c(3), api.OK)
	checkApply(t, typ(), []api.Term{}, f, typ(), api.OK)
	checkApply(t, w, nil, o, w, api.OK)
	checkApply(t, c(3), []api.Term{c(1)}, f, none, api.ErrShape)
	checkApply(t, lam(c(3)), []api.Term{c(1)}, o, none, api.ErrShape)
	checkApply(t, lam(c(3)), []api.Term{c(1)}, f, c(3), api.OK)
	checkApply(t, lam(lam(lam(c(0, v(0), v(1), v(2), v(3))))), []api.Term{v(0), v(8)}, to(o, o, o, o), lam(c(0, v(0), v(9), v(1), v(1))), api.OK)
	checkApply(t, lam(v(0)), []api.Term{lam(v(0)), c(5)}, to(f, f), c(5), api.OK)
	checkApply(t, lam(v(0)), []api.Term{lam(v(0)), c(5), c(6)}, to(f, f), none, api.ErrShape)
	checkApply(t, lam(v(0)), []api.Term{c(5), c(6)}, to(f, f), none, api.ErrShape)
	// The simple types are those of the arguments one by one.
	checkApply(t, lam(lam(v(0, v(1)))), []api.Term{c(5), lam(v(0))}, to(o, f, o), c(5), api.OK)
	checkApply(t, lam(lam(v(0, v(1)))), []api.Term{c(5), lam(v(0))}, to(f, o, o), none, api.ErrShape)
	checkApply(t, lam(lam(v(1, v(0)))), []api.Term{lam(v(0)), c(5)}, to(f, o, o), c(5), api.OK)
}

// P4.6

func TestApplicationEnds(t *testing.T) {
	w := lam(v(0, v(0)))
	for _, simple := range []api.Simple{steep(2), steep(3), steep(39), steep(api.MaxNodes), flat(api.MaxNodes)} {
		checkApply(t, w, []api.Term{w}, simple, api.Term{}, api.ErrShape)
		checkSubst(t, v(0, w, w), 0, w, simple, api.Term{}, api.ErrShape)
	}
	// At each of these simple types one TLam more is used up.
	three := lam(v(0, v(0, v(0))))
	checkApply(t, three, []api.Term{three}, steep(api.MaxNodes), api.Term{}, api.ErrShape)
}

// P4.1: what is too large on the way, though it is not in the result

func TestSubstFull(t *testing.T) {
	o := con(0)
	none := api.Term{}
	pair := c(2, v(0), v(0))
	checkSubst(t, pair, 0, nodes(299), o, c(2, nodes(299), nodes(299)), api.OK)
	checkSubst(t, pair, 0, nodes(300), o, none, api.ErrFull)
	checkSubst(t, c(2, c(1), v(0), v(0)), 0, nodes(299), o, c(2, c(1), nodes(299), nodes(299)), api.OK)
	checkSubst(t, c(2, c(1), c(1), v(0), v(0)), 0, nodes(299), o, none, api.ErrFull)
	checkSubst(t, tower(20, v(0)), 0, tower(21, c(0)), o, tower(40, c(0)), api.OK)
	checkSubst(t, tower(20, v(0)), 0, tower(22, c(0)), o, none, api.ErrFull)
	checkSubst(t, lam(tower(19, v(1))), 0, tower(22, c(0)), o, none, api.ErrFull)
	checkSubst(t, tower(40, c(0)), 0, c(1), o, tower(40, c(0)), api.OK)
	checkSubst(t, tower(2, v(0, c(1))), 0, lam(tower(39, v(0))), to(o, o), tower(40, c(1)), api.OK)
	checkSubst(t, tower(3, v(0, c(1))), 0, lam(tower(39, v(0))), to(o, o), none, api.ErrFull)
	checkSubst(t, pi(tower(20, v(0)), c(0)), 0, tower(20, c(0)), o, pi(tower(39, c(0)), c(0)), api.OK)
	checkSubst(t, pi(tower(20, v(0)), c(0)), 0, tower(21, c(0)), o, none, api.ErrFull)

}

func TestSubstFullOnTheWay(t *testing.T) {
	o := con(0)
	f := to(o, o)
	none := api.Term{}
	// A spine is built in full, though the application then discards it.
	pair := v(0, c(2, v(0), v(0)))
	checkSubst(t, pair, 0, lam(nodes(298)), f, nodes(298), api.OK)
	checkSubst(t, pair, 0, lam(nodes(299)), f, none, api.ErrFull)
	high := v(0, tower(20, v(0)))
	checkSubst(t, high, 0, lam(tower(20, c(0))), f, tower(20, c(0)), api.OK)
	checkSubst(t, high, 0, lam(tower(21, c(0))), f, none, api.ErrFull)

	// So is what an application comes to, before it is applied to the next object.
	constant := lam(c(5))
	apply := lam(lam(v(0, c(2, v(1), v(1)))))
	checkApply(t, apply, []api.Term{nodes(298), constant}, to(o, f, o), c(5), api.OK)
	checkApply(t, apply, []api.Term{nodes(299), constant}, to(o, f, o), none, api.ErrFull)
	below := lam(lam(v(0, lam(v(2)))))
	checkApply(t, below, []api.Term{v(api.MaxN - 2), constant}, to(o, f, o), c(5), api.OK)
	checkApply(t, below, []api.Term{v(api.MaxN - 1), constant}, to(o, f, o), none, api.ErrFull)
	first := lam(lam(v(1)))
	checkApply(t, first, []api.Term{c(5), nodes(api.MaxNodes)}, to(o, o, o), c(5), api.OK)
	checkApply(t, first, []api.Term{nodes(api.MaxNodes - 1), c(5)}, to(o, o, o), nodes(api.MaxNodes-1), api.OK)
	checkApply(t, first, []api.Term{nodes(api.MaxNodes), c(5)}, to(o, o, o), none, api.ErrFull)

	// The objects of a list are put one after the other.
	two := to(o, o, o)
	checkMany(t, c(0, v(0, c(5), c(2, v(1), v(1)))), []api.Term{first, nodes(300)}, []api.Simple{two, o}, c(0, c(5)), api.OK)
	checkMany(t, c(0, v(1, c(5), c(2, v(0), v(0)))), []api.Term{nodes(300), first}, []api.Simple{o, two}, none, api.ErrFull)
	class := pi(c(0), pi(pi(c(0), pi(c(0), c(0))), c(4, v(0, c(5), c(2, v(1), v(1))))))
	checkInstance(t, class, []api.Term{nodes(295), first}, c(4, c(5)), api.OK)
	checkInstance(t, class, []api.Term{nodes(296), first}, none, api.ErrFull)
}

func TestShiftFull(t *testing.T) {
	o := con(0)
	none := api.Term{}
	checkSubst(t, lam(v(1)), 0, v(api.MaxN), o, none, api.ErrFull)
	checkSubst(t, lam(v(1)), 0, v(api.MaxN-1), o, lam(v(api.MaxN)), api.OK)
	checkSubst(t, lam(v(0)), 0, v(api.MaxN), o, lam(v(0)), api.OK)
	checkSubst(t, v(api.MaxN), api.MaxN, v(1), o, none, api.ErrFull)
	checkSubst(t, v(api.MaxN), api.MaxN, lam(v(0)), o, lam(v(0)), api.OK)
	checkSubst(t, v(api.MaxN), api.MaxN, lam(v(1)), o, none, api.ErrFull)
	checkMany(t, c(0), []api.Term{v(api.MaxN), c(1)}, []api.Simple{o, o}, none, api.ErrFull)
	checkMany(t, c(0), []api.Term{v(api.MaxN - 1), v(api.MaxN)}, []api.Simple{o, o}, c(0), api.OK)
	checkMany(t, v(0), []api.Term{v(api.MaxN - 1), v(api.MaxN)}, []api.Simple{o, o}, v(api.MaxN-1), api.OK)
}

// P4.1: the first error in the order of the computation

func TestOrderOfErrors(t *testing.T) {
	o := con(0)
	none := api.Term{}
	shape := v(0, c(1))
	deep := tower(39, v(0))
	full := lam(v(1))
	check := func(x, s api.Term, want api.Errno) {
		t.Helper()
		checkSubst(t, x, 0, s, o, none, want)
	}
	check(c(0, shape, deep), tower(3, c(1)), api.ErrShape)
	check(c(0, deep, shape), tower(3, c(1)), api.ErrFull)
	check(pi(shape, deep), tower(3, c(1)), api.ErrShape)
	check(pi(deep, v(1, c(1))), tower(3, c(1)), api.ErrFull)
	check(c(0, shape, full), v(api.MaxN), api.ErrShape)
	check(c(0, full, shape), v(api.MaxN), api.ErrFull)
	// The spine comes before the head, and the shift before the application.
	check(v(0, deep), tower(3, c(1)), api.ErrFull)
	check(v(0, tower(38, v(0))), tower(3, c(1)), api.ErrShape)
	check(lam(v(1, c(1))), v(api.MaxN), api.ErrFull)
	check(lam(v(1, c(1))), v(api.MaxN-1), api.ErrShape)
	// All Args of a node come before the node itself.
	check(c(0, nodes(1), v(0), v(0), shape), nodes(300), api.ErrShape)
	check(c(1, c(0, nodes(1), v(0), v(0)), shape), nodes(300), api.ErrFull)
	// An application is done before what comes after it.
	swap := to(to(con(0), con(0)), con(0))
	checkSubst(t, c(0, v(0, c(3)), v(0, lam(nodes(300)))), 0, lam(c(2, v(0, c(1)), v(0, c(1)))), swap, none, api.ErrShape)
	checkSubst(t, c(0, v(0, lam(nodes(300))), v(0, c(3))), 0, lam(c(2, v(0, c(1)), v(0, c(1)))), swap, none, api.ErrFull)
	checkMany(t, c(0, shape, v(1)), []api.Term{c(1), v(api.MaxN), v(0)}, []api.Simple{o, o, o}, none, api.ErrShape)
	checkMany(t, c(0, v(0), v(1, c(1))), []api.Term{c(1), v(api.MaxN), v(0)}, []api.Simple{o, o, o}, none, api.ErrFull)
}

// P4.1: the nodes at which substitutions arrive

// worker returns a term and an object for its variable 0 with which substitutions arrive at 19669 + more nodes.
func worker(more int) (x, s api.Term, simple api.Simple) {
	o := con(0)
	s = lam(v(0, c(2, leaves(590)...)))
	x = c(0)
	for range 33 {
		x.Args = append(x.Args, v(0, lam(c(3))))
	}
	x.Args = append(x.Args, leaves(more)...)
	return x, s, to(to(o, o), o)
}

func TestSteps(t *testing.T) {
	for more := 329; more <= 333; more++ {
		x, s, simple := worker(more)
		want := c(0, append(slices.Repeat([]api.Term{c(3)}, 33), leaves(more)...)...)
		if more > 331 {
			checkSubst(t, x, 0, s, simple, api.Term{}, api.ErrFull)
			checkApply(t, lam(x), []api.Term{s}, to(simple, con(0)), api.Term{}, api.ErrFull)
			continue
		}
		checkSubst(t, x, 0, s, simple, want, api.OK)
		checkApply(t, lam(x), []api.Term{s}, to(simple, con(0)), want, api.OK)
	}
}

func TestStepsBeforeAnotherError(t *testing.T) {
	x, s, simple := worker(330)
	x.Args = append(x.Args, v(0, c(3)))
	checkSubst(t, x, 0, s, simple, api.Term{}, api.ErrFull)
	x, s, simple = worker(328)
	x.Args = append(x.Args, v(0, c(3), c(4)))
	checkSubst(t, x, 0, s, simple, api.Term{}, api.ErrFull)
	x, s, simple = worker(340)
	x.Args = append([]api.Term{v(0, c(3))}, x.Args...)
	checkSubst(t, x, 0, s, simple, api.Term{}, api.ErrShape)
}

func TestStepsOfSeveral(t *testing.T) {
	objects := func(count int) ([]api.Term, []api.Simple) {
		return leaves(count), slices.Repeat([]api.Simple{con(0)}, count)
	}
	// 40 times 500 nodes, and 113 times 177.
	l, simples := objects(40)
	checkMany(t, nodes(500), l, simples, nodes(500), api.OK)
	checkMany(t, nodes(501), l, simples, api.Term{}, api.ErrFull)
	l, simples = objects(113)
	checkMany(t, nodes(177), l, simples, api.Term{}, api.ErrFull)
	checkMany(t, nodes(176), l, simples, nodes(176), api.OK)
}

func TestStepsOfInstance(t *testing.T) {
	// With k objects for k TPis around n nodes, substitutions arrive at k n + k (k - 1) nodes; if the domain of the TPi at
	// a position has one node more, at as many more as the position says.
	class := func(count, size, larger int) api.Term {
		x := nodes(size)
		for at := count - 1; at >= 0; at-- {
			domain := c(0)
			if at == larger {
				domain = c(0, c(1))
			}
			x = pi(domain, x)
		}
		return x
	}
	checkInstance(t, class(37, 504, 0), leaves(37), nodes(504), api.OK)
	checkInstance(t, class(37, 504, 20), leaves(37), nodes(504), api.OK)
	checkInstance(t, class(37, 504, 21), leaves(37), api.Term{}, api.ErrFull)
	checkInstance(t, class(37, 504, 21), leaves(36), pi(c(0), nodes(504)), api.OK)
}

// P4.1 to P4.5: arguments

func TestArguments(t *testing.T) {
	o := con(0)
	none := api.Term{}
	for _, x := range improper() {
		checkSubst(t, x, 0, c(0), o, none, api.ErrArg)
		checkSubst(t, v(0, c(1)), 0, x, o, none, api.ErrArg)
		checkApply(t, x, []api.Term{c(0)}, o, none, api.ErrArg)
		checkApply(t, c(0), []api.Term{c(0), x}, o, none, api.ErrArg)
		checkInstance(t, x, []api.Term{c(0)}, none, api.ErrArg)
		checkInstance(t, c(0), []api.Term{c(0), x}, none, api.ErrArg)
		checkMany(t, x, nil, nil, none, api.ErrArg)
		checkMany(t, v(0, c(1)), []api.Term{c(0), x}, []api.Simple{o, o}, none, api.ErrArg)
		if head, n, err := Short(x); head != 0 || n != 0 || err != api.ErrArg {
			t.Errorf("Short = %d, %d, %d", head, n, err)
		}
	}
	for _, simple := range large() {
		checkSubst(t, v(0, c(1)), 0, c(0), simple, none, api.ErrArg)
		checkApply(t, c(0), []api.Term{c(0)}, simple, none, api.ErrArg)
		checkMany(t, v(0, c(1)), []api.Term{c(0), c(0)}, []api.Simple{o, simple}, none, api.ErrArg)
		checkLong(t, api.HCon, 0, simple, none, api.ErrArg)
	}
	for _, n := range []int{-1, api.MaxN + 1, math.MinInt, math.MaxInt} {
		checkSubst(t, v(0, c(1)), n, c(0), o, none, api.ErrArg)
		checkLong(t, api.HVar, n, o, none, api.ErrArg)
		checkLong(t, api.HMeta, n, o, none, api.ErrArg)
		checkLong(t, n, 0, o, none, api.ErrArg)
	}
	checkLong(t, 0, 0, o, none, api.ErrArg)
	checkLong(t, 4, 0, o, none, api.ErrArg)
}

func TestLimitsOfArguments(t *testing.T) {
	o := con(0)
	none := api.Term{}
	l := leaves(api.MaxNodes)
	more := leaves(api.MaxNodes + 1)
	simples := slices.Repeat([]api.Simple{o}, api.MaxNodes)
	checkApply(t, c(0), l, o, none, api.ErrShape)
	checkApply(t, c(0), more, o, none, api.ErrArg)
	checkInstance(t, c(0), l, none, api.ErrShape)
	checkInstance(t, c(0), more, none, api.ErrArg)
	checkMany(t, v(api.MaxNodes), l, simples, v(0), api.OK)
	checkMany(t, v(api.MaxNodes), more, append(simples, o), none, api.ErrArg)
	checkMany(t, c(0), l, simples[1:], none, api.ErrArg)
	checkMany(t, c(0), nil, simples[:1], none, api.ErrArg)
	checkMany(t, c(0), l[:1], nil, none, api.ErrArg)
	checkMany(t, c(0), l[:2], simples[:3], none, api.ErrArg)
	for _, simple := range []api.Simple{flat(api.MaxNodes), steep(api.MaxNodes), con(api.MaxN)} {
		checkSubst(t, v(0), 0, c(5), simple, c(5), api.OK)
		checkApply(t, c(5), nil, simple, c(5), api.OK)
		checkMany(t, c(0, v(0), v(1)), l[:2], []api.Simple{simple, simple}, c(0, c(1), c(1)), api.OK)
	}
	checkSubst(t, nodes(api.MaxNodes), api.MaxN, tower(api.MaxDepth, c(0)), o, nodes(api.MaxNodes), api.OK)
}
