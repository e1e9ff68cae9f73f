package subst

import (
	"testing"

	"truss/api"
	"truss/term"
)

// Substitution once more, in another way: terms are evaluated to values, which are read back. (Of what is well typed.)

// A value is the value of a term: a function, or something else that may have args.
type value struct {
	op, head, n int
	args        []value
	call        func(value) value // of a TLam, and of the body of a TPi
	level       int               // of a variable that is made to read back: n is -1 then
}

// free returns the value of the variable n of the context of the result.
func free(n int) value { return value{op: api.TApp, head: api.HVar, n: n} }

type env func(n int) value

func (e env) with(x value) env {
	return func(n int) value {
		if n == 0 {
			return x
		}
		return e(n - 1)
	}
}

func evaluate(t api.Term, e env) value {
	result := value{op: t.Op, head: t.Head, n: t.N}
	switch t.Op {
	case api.TPi:
		result.args = []value{evaluate(t.Args[0], e)}
		result.call = func(x value) value { return evaluate(t.Args[1], e.with(x)) }
	case api.TLam:
		result.call = func(x value) value { return evaluate(t.Args[0], e.with(x)) }
	case api.TApp:
		if t.Head == api.HVar {
			result = e(t.N)
		}
		for _, arg := range t.Args {
			result = result.applied(evaluate(arg, e))
		}
	}
	return result
}

func (f value) applied(x value) value {
	if f.call != nil {
		return f.call(x)
	}
	f.args = append(f.args[:len(f.args):len(f.args)], x)
	return f
}

// readBack returns the term of a value below as many binders as level says.
func readBack(x value, level int) api.Term {
	t := api.Term{Op: x.op, Head: x.head, N: x.n}
	if x.head == api.HVar {
		t.N += level
		if x.n == -1 {
			t.N = level - 1 - x.level
		}
	}
	for _, arg := range x.args {
		t.Args = append(t.Args, readBack(arg, level))
	}
	if x.call != nil {
		body := x.call(value{op: api.TApp, head: api.HVar, n: -1, level: level})
		t.Args = append(t.Args, readBack(body, level+1))
	}
	return t
}

// evaluated returns the canonical form of t, whose first variables have values, if the other ones are those of the result.
func evaluated(t api.Term, values ...value) api.Term {
	return readBack(evaluate(t, func(n int) value {
		if n < len(values) {
			return values[n]
		}
		return free(n - len(values))
	}), 0)
}

// valueOf returns the value of an object whose free variable k is the variable by + k of the context of the result.
func valueOf(s api.Term, by int) value {
	return evaluate(s, func(n int) value { return free(by + n) })
}

// substituted is what Subst should return.
func substituted(t api.Term, n int, s api.Term) api.Term {
	result := evaluate(t, func(k int) value {
		switch {
		case k < n:
			return free(k)
		case k == n:
			return valueOf(s, n)
		}
		return free(k - 1)
	})
	return readBack(result, 0)
}

// A maker makes objects that look like random ones, always the same.
type maker struct{ seed uint32 }

func (m *maker) below(n int) int {
	m.seed = m.seed*1664525 + 1013904223
	return int(m.seed>>16) % n
}

// constants returns the simple types of the constants of made objects: con(0) and con(1) are simple types of objects.
func constants() []api.Simple {
	o, i := con(0), con(1)
	return []api.Simple{o, i, to(o, o), to(o, o, o), to(to(i, i), i), to(i, i, i), to(to(to(o, o), i), o), to(o, to(o, o, o), o)}
}

func (m *maker) simple() api.Simple {
	o, i := con(0), con(1)
	f := to(o, o)
	list := []api.Simple{o, i, f, to(o, o, o), to(f, o), to(f, o, i), to(to(f, o), o), to(to(f, o), f, i), to(o, to(to(i, o), o), f, i)}
	return list[m.below(len(list))]
}

func (m *maker) context() []api.Simple {
	var ctx []api.Simple
	for range 3 + m.below(3) {
		ctx = append(ctx, m.simple())
	}
	return ctx
}

// object makes an object of a simple type. The last one of ctx is the simple type of the variable 0.
func (m *maker) object(simple api.Simple, ctx []api.Simple, depth int) api.Term {
	count := len(simple.Args)
	ctx = append(ctx[:len(ctx):len(ctx)], simple.Args...)
	t := m.head(simple.Con, ctx, depth)
	for range count {
		t = lam(t)
	}
	return t
}

func (m *maker) head(result int, ctx []api.Simple, depth int) api.Term {
	type head struct {
		term   api.Term
		simple api.Simple
	}
	var heads []head
	add := func(t api.Term, simple api.Simple) {
		if simple.Con == result && (depth > 0 || len(simple.Args) == 0) {
			heads = append(heads, head{t, simple})
		}
	}
	for n := range ctx {
		add(v(n), ctx[len(ctx)-1-n])
		add(v(n), ctx[len(ctx)-1-n]) // variables more often than others
	}
	for n, simple := range constants() {
		add(c(n), simple)
	}
	add(meta(result), con(result))
	chosen := heads[m.below(len(heads))]
	for _, arg := range chosen.simple.Args {
		chosen.term.Args = append(chosen.term.Args, m.object(arg, ctx, depth-1))
	}
	return chosen.term
}

// typeOf makes a term with TPis around made objects.
func (m *maker) typeOf(ctx []api.Simple, depth int) api.Term {
	if depth == 0 {
		return c(9, m.object(con(0), ctx, 2), m.object(m.simple(), ctx, 1))
	}
	simple := m.simple()
	domain := m.class(simple, ctx)
	return pi(domain, m.typeOf(append(ctx[:len(ctx):len(ctx)], simple), depth-1))
}

// class makes a type with this simple type.
func (m *maker) class(simple api.Simple, ctx []api.Simple) api.Term {
	if len(simple.Args) == 0 {
		return c(simple.Con, m.object(con(1), ctx, 1))
	}
	first := simple.Args[0]
	rest := api.Simple{Con: simple.Con, Args: simple.Args[1:]}
	domain := m.class(first, ctx)
	return pi(domain, m.class(rest, append(ctx[:len(ctx):len(ctx)], first)))
}

// without returns a context without its variable n, and the context of those before it.
func without(ctx []api.Simple, n int) (rest, before []api.Simple) {
	at := len(ctx) - 1 - n
	before = append(before, ctx[:at]...)
	rest = append(append(rest, ctx[:at]...), ctx[at+1:]...)
	return rest, before
}

// mostly checks that a test has seen a good part of its made inputs without ErrFull.
func mostly(t *testing.T, done, all int) {
	t.Helper()
	if done < all*3/4 {
		t.Errorf("only %d of %d are without an error", done, all)
	}
}

// P4.1

func TestSubstOfMadeTerms(t *testing.T) {
	made := maker{seed: 1}
	const all = 3000
	done := 0
	for i := range all {
		ctx := made.context()
		n := made.below(len(ctx))
		simple := ctx[len(ctx)-1-n]
		_, before := without(ctx, n)
		x := made.typeOf(ctx, i%3)
		s := made.object(simple, before, 1+i%3)
		got, err := Subst(x, n, s, simple)
		if err == api.ErrFull || term.Check(x) != api.OK {
			continue
		}
		done++
		check(t, "Subst", got, err, substituted(x, n, s), api.OK)
		checkNew(t, got, x, s)
	}
	mostly(t, done, all)
}

func TestApplyOfMadeTerms(t *testing.T) {
	made := maker{seed: 2}
	const all = 2000
	done := 0
	for i := range all {
		ctx, simple := made.context(), made.simple()
		f := made.object(simple, ctx, 3)
		var l []api.Term
		want := valueOf(f, 0)
		for _, arg := range simple.Args[:made.below(len(simple.Args)+1)] {
			s := made.object(arg, ctx, 1+i%3)
			l = append(l, s)
			want = want.applied(valueOf(s, 0))
		}
		got, err := Apply(f, l, simple)
		if err == api.ErrFull {
			continue
		}
		done++
		check(t, "Apply", got, err, readBack(want, 0), api.OK)
		checkNew(t, got, append(l, f)...)
	}
	mostly(t, done, all)
}

// P4.3

func TestInstanceOfMadeTerms(t *testing.T) {
	made := maker{seed: 3}
	const all = 2000
	done := 0
	for range all {
		ctx := made.context()
		class := made.typeOf(ctx, 3)
		var l []api.Term
		rest := class
		want := valueOf(class, 0)
		for range made.below(4) {
			simple, err := term.Simple(rest.Args[0])
			if err != api.OK {
				t.Fatal(err)
			}
			s := made.object(simple, ctx, 2)
			l = append(l, s)
			want = want.call(valueOf(s, 0))
			rest = rest.Args[1]
		}
		got, err := Instance(class, l)
		if err == api.ErrFull || term.Check(class) != api.OK {
			continue
		}
		done++
		check(t, "Instance", got, err, readBack(want, 0), api.OK)
		checkNew(t, got, append(l, class)...)
	}
	mostly(t, done, all)
}

// P4.4

func TestManyOfMadeTerms(t *testing.T) {
	made := maker{seed: 4}
	const all = 2000
	done := 0
	for range all {
		ctx := made.context()
		count := made.below(len(ctx) + 1)
		before := ctx[:len(ctx)-count]
		x := made.typeOf(ctx, 1)
		var l []api.Term
		var simples []api.Simple
		var values []value
		for n := range count {
			simple := ctx[len(ctx)-1-n]
			s := made.object(simple, before, 2)
			l, simples, values = append(l, s), append(simples, simple), append(values, valueOf(s, 0))
		}
		got, err := Many(x, l, simples)
		if err == api.ErrFull {
			continue
		}
		done++
		check(t, "Many", got, err, evaluated(x, values...), api.OK)
		checkNew(t, got, append(l, x)...)
	}
	mostly(t, done, all)
}

// P4.7

func TestSubstCommutes(t *testing.T) {
	made := maker{seed: 5}
	const all = 2000
	done := 0
	for range all {
		ctx := made.context()
		k := 1 + made.below(len(ctx)-1)
		n := made.below(k)
		simpleN, simpleK := ctx[len(ctx)-1-n], ctx[len(ctx)-1-k]
		_, beforeN := without(ctx, n)
		_, beforeK := without(ctx, k)
		x := made.typeOf(ctx, 1)
		s, r := made.object(simpleN, beforeN, 2), made.object(simpleK, beforeK, 2)

		first, err1 := Subst(x, k, r, simpleK)
		within, err2 := Subst(s, k-n-1, r, simpleK)
		one, err3 := Subst(first, n, within, simpleN)
		second, err4 := Subst(x, n, s, simpleN)
		other, err5 := Subst(second, k-1, r, simpleK)
		if err1 != api.OK || err2 != api.OK || err3 != api.OK || err4 != api.OK || err5 != api.OK {
			continue
		}
		done++
		if !term.Same(one, other) {
			t.Errorf("%v for %d and %v for %d in %v: %v, and %v", s, n, r, k, x, one, other)
		}
	}
	mostly(t, done, all)
}

// P4.8

func TestSubstOfLong(t *testing.T) {
	made := maker{seed: 6}
	for i := range 1000 {
		// The variable to, of the same simple type, is the outermost one.
		ctx := made.context()
		n := made.below(len(ctx) - 1)
		simple := ctx[len(ctx)-1-n]
		ctx[0] = simple
		x := made.typeOf(ctx, i%3)
		to := len(ctx) - 1
		long, err := Long(api.HVar, to-n-1, simple)
		if err != api.OK || term.Check(x) != api.OK {
			t.Fatal(err)
		}
		want := renamed(x, n, to, 0)
		checkSubst(t, x, n, long, simple, want, api.OK)
		sizeBefore, depthBefore, _ := term.Size(x)
		if size, depth, _ := term.Size(want); size != sizeBefore || depth != depthBefore {
			t.Fatal("another size")
		}
	}
}

// renamed returns a term without its free variable n, which becomes the one that was to.
func renamed(x api.Term, n, to, level int) api.Term {
	result := api.Term{Op: x.Op, Head: x.Head, N: x.N}
	if x.Head == api.HVar && x.N == n+level {
		result.N = to + level
	}
	if x.Head == api.HVar && result.N > n+level {
		result.N--
	}
	for i, arg := range x.Args {
		within := level
		if x.Op == api.TLam || x.Op == api.TPi && i == 1 {
			within++
		}
		result.Args = append(result.Args, renamed(arg, n, to, within))
	}
	return result
}

// P4.9

func TestSubstIsShift(t *testing.T) {
	made := maker{seed: 8}
	for i := range 500 {
		ctx := made.context()
		n := made.below(len(ctx))
		rest, _ := without(ctx, n)
		x, err := term.Shift(made.typeOf(rest, i%3), 1, n)
		if err != api.OK {
			t.Fatal(err)
		}
		want, err := term.Shift(x, -1, n)
		if err != api.OK {
			t.Fatal(err)
		}
		checkSubst(t, x, n, made.object(made.simple(), ctx, 1), made.simple(), want, api.OK)
	}
}
