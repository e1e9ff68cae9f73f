package search_test

import (
	"slices"
	"strconv"
	"strings"
	"testing"

	"truss/api"
	"truss/build"
	"truss/search"
	"truss/written"
)

// expectCount checks how many solutions a goal has.
func (g goal) expectCount(t *testing.T, depth, most, want int, cut bool) {
	t.Helper()
	got, err := g.solve(depth, most)
	if err != api.OK || len(got.List) != want || got.Cut != cut || got.Stuck != 0 {
		t.Errorf("Solve to the depth %d has %d solutions, %v, %d, error %d; want %d, %v", depth, len(got.List), got.Cut, got.Stuck, err, want, cut)
	}
}

// P13.2: MaxSearch

func TestMaxSearch(t *testing.T) {
	n := goalOf(t, written.Sig(numbers), "nat")
	n.expectCount(t, 0, 9, 0, true)
	n.expectCount(t, api.MaxSearch, api.MaxAnswers, api.MaxSearch, true)
	for _, depth := range []int{-1, api.MaxSearch + 1, 1000, 1 << 62, -1 << 62} {
		n.expectError(t, depth, 1, api.ErrArg)
	}
}

// P13.2: MaxAnswers

func TestMaxAnswers(t *testing.T) {
	flat := goal{sig: build.Flat(api.MaxDecls), a: c(0)}
	for _, most := range []int{1, 2, api.MaxAnswers} {
		flat.expectCount(t, 1, most, most, false)
	}
	for _, most := range []int{0, -1, api.MaxAnswers + 1, 1000, 1 << 62, -1 << 62} {
		flat.expectError(t, 1, most, api.ErrArg)
	}
}

// many returns declarations of so many constants with one class.
func many(count int, name, class string) string {
	var b strings.Builder
	for n := range count {
		b.WriteString(name + strconv.Itoa(n) + " : " + class + ". ")
	}
	return b.String()
}

// P13.2: MaxTries

func TestMaxTries(t *testing.T) {
	// 1 + 62 + 62 * 62 tries of two, 1 + 62 of one, and 1 of each of the others.
	source := "a : type. void : type. free : type. q : type. two : void -> a -> a -> q. one : void -> a -> q. " + many(62, "a", "a")
	const others = api.MaxTries - (1 + 62 + 62*62) - (1 + 62)
	all := goalOf(t, written.Sig(source+many(others, "q", "void -> q")), "q")
	all.expectCount(t, 2, 9, 0, false)
	all.expectCount(t, 3, 9, 0, false)
	more := goalOf(t, written.Sig(source+many(others+1, "q", "void -> q")), "q")
	more.expectError(t, 3, 9, api.ErrFuel)
	more.expectCount(t, 1, 9, 0, true)
	// Below binders there are no other tries; a try of a variable of the context is one.
	goal{sig: all.sig, a: to(c(written.Constant(all.sig, "free")), all.a)}.expectCount(t, 3, 9, 0, false)
	goal{sig: all.sig, a: to(all.a, all.a)}.expectError(t, 3, 9, api.ErrFuel)
	all.in(t, "a").expectError(t, 3, 9, api.ErrFuel)
	all.in(t, "q").expectError(t, 3, 9, api.ErrFuel)
	// Solutions that are found before it does not matter; fewer of them than are asked for are lost.
	all.in(t, "q").expectCount(t, 3, 1, 1, false)
	last := goalOf(t, written.Sig(source+many(others-1, "q", "void -> q")+"end : q."), "q")
	last.expectCount(t, 3, 1, 1, false)
	last.in(t, "void -> q").expectError(t, 3, 1, api.ErrFuel)
	// In each depth of First the tries are counted anew.
	found, depth, err := search.First(last.sig, nil, nil, to(last.a, last.a), 3)
	if err != api.OK || depth != 1 || found.Proof.Op != api.TLam {
		t.Errorf("First = %v, %d, %d", found, depth, err)
	}
	more.expectNoFirst(t, 3, api.ErrFuel)
	all.expectNoFirst(t, 3, api.ErrNone)
}

// P13.2: MaxCtx

func TestMaxCtx(t *testing.T) {
	sig := written.Sig(numbers + "far : (nat -> nat) -> plus z z (s z).")
	full := goal{sig: sig, ctx: nats(api.MaxCtx), a: c(nat)}
	full.expectCount(t, 1, api.MaxAnswers, api.MaxCtx+1, true)
	full.a = arrows(1)
	for _, depth := range []int{0, 1, api.MaxSearch} {
		full.expectError(t, depth, 1, api.ErrFull)
	}
	less := goal{sig: sig, ctx: nats(api.MaxCtx - 1), a: arrows(1)}
	less.expectCount(t, 1, api.MaxAnswers, api.MaxCtx+1, true)
	less.a = arrows(2)
	less.expectError(t, 1, 1, api.ErrFull)
	goal{sig: sig, a: arrows(api.MaxCtx)}.expectCount(t, 1, api.MaxAnswers, api.MaxCtx+1, true)
	goal{sig: sig, a: arrows(api.MaxCtx + 1)}.expectError(t, 1, 1, api.ErrFull)
	// In a premise, if the search comes to it.
	full.a = c(plus, c(z), c(z), c(s, c(z)))
	full.expectCount(t, 0, 1, 0, true)
	full.expectError(t, 1, 1, api.ErrFull)
	full.a = c(plus, c(z), c(z), c(z))
	full.expectCount(t, 1, 9, 1, false)
	less.a = c(plus, c(z), c(z), c(s, c(z)))
	less.expectCount(t, 2, api.MaxAnswers, api.MaxCtx+1, true)
}

// P13.2: MaxMetas, of layer 8

func TestMaxMetas(t *testing.T) {
	sig := written.Sig(numbers)
	metas := slices.Repeat([]api.Meta{hole(c(nat))}, api.MaxMetas-1)
	g := goal{sig: sig, metas: metas, a: c(plus, c(z), c(z), c(z))}
	g.expectError(t, 1, 9, api.ErrFull)
	g.expectCount(t, 1, 1, 1, false)
	g.metas = append(metas, hole(c(nat)))
	g.expectError(t, 1, 1, api.ErrFull)
	g.a = c(nat)
	g.expectCount(t, 1, 9, 1, true)
	// What a try that has no results has made does not count.
	g.metas = metas
	g.sig = written.Sig(numbers + "p : nat -> type. p1 : p (s N). p2 : p (s N). p3 : p N.")
	g.a = c(written.Constant(g.sig, "p"), c(z))
	g.expectCount(t, 1, 9, 1, false)
}

// P13.2: MaxLeft, of layer 10

func TestMaxLeft(t *testing.T) {
	family := func(name string, count int) string {
		return name + " : " + strings.Repeat("nat -> ", count) + "type. " + name + "1 : " + name + strings.Repeat(" z", count) + ". "
	}
	p, q := "p"+strings.Repeat(" (F z)", 27)+" -> ", "q"+strings.Repeat(" (F z)", 26)+" -> "
	sig := written.Sig("nat : type. z : nat. s : nat -> nat. " + family("p", 27) + family("q", 26) +
		"least : type. k : {F:nat -> nat} " + p + p + q + "least. most : type. l : {F:nat -> nat} " + p + p + p + "most.")
	// Each argument of each premise leaves an equation.
	goalOf(t, sig, "least").expect(t, 2, 9, answer{stuck: 1})
	goalOf(t, sig, "most").expectError(t, 2, 9, api.ErrFull)
	goalOf(t, sig, "most").expect(t, 1, 9, answer{cut: true})
}

// P13.2: an object that is not proper

func TestProper(t *testing.T) {
	// The object of p has 26 nodes: with 23 of them it is just proper.
	premises := func(count int, name string) string { return strings.Repeat(name+" -> ", count) }
	source := "nat : type. z : nat. a : type. a1 : a. p : type. p1 : " + premises(25, "a") + "p. q : nat -> type. "
	g := goalOf(t, written.Sig(source+"q1 : "+premises(23, "p")+"q z."), "q z")
	g.expectCount(t, 3, 1, 1, false)
	sig := written.Sig(source + "q1 : " + premises(24, "p") + "q z.")
	g = goalOf(t, sig, "q z")
	g.expectError(t, 3, 1, api.ErrFull)
	g.expectCount(t, 2, 1, 0, true)
	// Solutions that come before are returned alone; a result that is stuck has no object that is looked at.
	g.in(t, "q z").expectCount(t, 3, 1, 1, false)
	g.in(t, "q z").expectError(t, 3, 2, api.ErrFull)
	g.metas = []api.Meta{hole(to(c(0), c(0)))}
	g.a = c(written.Constant(sig, "q"), m(0, c(1)))
	g.expect(t, 3, 1, answer{stuck: 1})
}

func TestDeepObject(t *testing.T) {
	// Each of nine premises is 4 deep, and the last one has C as an argument.
	sig := written.Sig("nat : type. z : nat. s : nat -> nat. p : nat -> nat -> type. p0 : p z C. p1 : p (s N) C <- (nat -> nat -> nat -> p N C).")
	p := goalOf(t, sig, "p (s (s (s (s (s (s (s (s (s z))))))))) (s (s z))")
	p.expectCount(t, 9, 9, 0, true)
	p.expectCount(t, 10, 9, 1, false)
	p = goalOf(t, sig, "p (s (s (s (s (s (s (s (s (s z))))))))) (s (s (s z)))")
	p.expectCount(t, 9, 9, 0, true)
	p.expectError(t, 10, 9, api.ErrFull)
}

// P13.2: errors of layers 4 and 8, and of layer 9 but for ErrClash, ErrScope and ErrShape, end the whole search

func TestOtherErrors(t *testing.T) {
	sig := written.Sig(numbers + "e : nat -> nat -> type. ez : e z z.")
	e := written.Constant(sig, "e")
	ez := c(e, c(z), c(z))
	for _, x := range []struct {
		class api.Term
		want  api.Errno
	}{
		// Domains that have no simple types, of dependent arguments; and of premises.
		{pi(typ(), c(e, v(0), v(0))), api.ErrLevel},
		{pi(c(nat), pi(v(0), c(e, v(0), v(1)))), api.ErrLevel},
		{pi(lam(c(nat)), c(e, c(z), v(0))), api.ErrLevel},
		{pi(typ(), ez), api.OK},
		{pi(c(z), ez), api.OK},
		// A number that is applied.
		{pi(c(nat), c(e, v(0, c(z)), c(z))), api.ErrShape},
		{pi(arrows(1), pi(c(nat), c(e, v(1), v(1, v(0), v(0))))), api.ErrShape},
		// It is no error of a try if it comes after one, and none at all if the try is not begun.
		{pi(c(nat), c(e, v(0))), api.OK},
	} {
		g := goal{sig: append(sig, decl("k", x.class), decl("l", ez)), a: ez}
		g.expectCount(t, 3, 1, 1, false)
		if x.want != api.OK {
			g.expectError(t, 3, 9, x.want)
			continue
		}
		g.expectCount(t, 3, 9, 2, false)
	}
	// In a context with types that are none: new metavariables cannot be in it.
	for _, x := range []struct {
		a    api.Term
		want api.Errno
	}{{c(nat, v(5)), api.ErrScope}, {typ(), api.ErrLevel}, {c(z), api.OK}, {lam(c(z)), api.ErrLevel}, {c(nat, c(99)), api.OK}} {
		g := goal{sig: sig, ctx: []api.Term{x.a, c(nat)}, a: c(plus, c(z), c(z), c(z))}
		if x.want == api.OK {
			g.expectCount(t, 1, 9, 1, false)
		} else {
			g.expectError(t, 1, 9, x.want)
		}
		g.expectCount(t, 0, 9, 0, true)
	}
	// A variable whose type cannot be shifted.
	goal{sig: sig, ctx: []api.Term{c(nat, v(api.MaxN))}, a: c(nat)}.expectError(t, 1, 9, api.ErrFull)
	// A value that cannot be applied.
	bad := []api.Meta{build.Solved(c(nat), c(z)), hole(c(nat))}
	goal{sig: sig, metas: bad, a: c(e, m(0, c(z)), c(z))}.expectError(t, 0, 1, api.ErrShape)
	bad[1].Class = c(vec, m(0, c(z)))
	goal{sig: sig, metas: bad, a: c(nat)}.expectError(t, 0, 1, api.ErrShape)
}

// P13.2: MaxSteps, of layer 9

func TestMaxSteps(t *testing.T) {
	longSteps(37).expect(t, 1, 9, answer{stuck: 1})
	longSteps(39).expectError(t, 1, 9, api.ErrFuel)
}

// longSteps returns a goal for which large objects are compared, so many times but two.
func longSteps(times int) goal {
	const nat, z, f, p = 0, 1, 2, 3
	chain := func(leaf api.Term) api.Term {
		for range 37 {
			leaf = c(f, append(copies(14, c(z)), leaf)...)
		}
		return leaf
	}
	sig := []api.Decl{
		decl("nat", typ()), decl("z", c(nat)), decl("f", to(copies(16, c(nat))...)), decl("p", to(append(copies(times, c(nat)), typ())...)),
		decl("k", pi(c(nat), c(p, append([]api.Term{chain(c(z))}, copies(times-1, v(0))...)...))),
	}
	args := append([]api.Term{m(1), chain(m(0, c(z)))}, copies(times-2, m(1))...)
	return goal{sig: sig, metas: []api.Meta{hole(to(c(nat), c(nat))), hole(c(nat))}, a: c(p, args...)}
}
