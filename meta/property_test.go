package meta_test

import (
	"slices"
	"testing"

	"truss/api"
	"truss/build"
	"truss/check"
	"truss/maker"
	"truss/meta"
	"truss/subst"
	"truss/term"
)

// open returns metavariables whose Classes are types over whole, none of them solved.
func open() []api.Meta {
	n, t := c(nat), c(tm)
	fun := to(n, n)
	return []api.Meta{
		hole(n), named("F", fun), hole(to(n, c(vec, v(0)))), hole(c(vec, c(s, m(0)))), hole(c(plus, c(z), m(0), m(0))),
		hole(to(fun, to(n, c(vec, v(1, v(0)))), c(vec, m(1, c(z))))), named("T", t), hole(to(t, t)), hole(to(to(t, t), t)), hole(n), hole(c(vec, m(9))),
	}
}

// lists calls do some times for each one of many lists of metavariables, which are partly solved by well typed values, and not
// resolved.
func lists(t *testing.T, times int, do func(made *maker.Maker)) {
	t.Helper()
	made := maker.New(open())
	for range 100 {
		made.Metas = open()
		for range made.Below(12) {
			n := made.Below(len(made.Metas))
			value, ok := made.Object(nil, made.Metas[n].Class, 4)
			longer := slices.Clone(made.Metas)
			longer[n].Solved, longer[n].Value = true, value
			if ok && !made.Metas[n].Solved && meta.Check(longer) == api.OK {
				made.Metas = longer
			}
		}
		for range times {
			do(made)
		}
	}
}

// outcome collects the results of functions that should have no error.
type outcome struct {
	failed bool
}

func (o *outcome) resolve(metas []api.Meta, x api.Term) api.Term {
	result, err := meta.Resolve(metas, x)
	o.failed = o.failed || err != api.OK
	return result
}

// resolvedBySubst returns the resolved term in another way: the solved metavariables become variables, for which subst.Many
// puts the values, until there are none.
func resolvedBySubst(metas []api.Meta, x api.Term) (api.Term, api.Errno) {
	var numbers []int
	var values []api.Term
	var simples []api.Simple
	for n, one := range metas {
		if one.Solved {
			simple, _ := term.Simple(one.Class)
			numbers, values, simples = append(numbers, n), append(values, one.Value), append(simples, simple)
		}
	}
	isSolved := func(n int) bool { return metas[n].Solved }
	for {
		list, err := term.Metas(x)
		if err != api.OK || !slices.ContainsFunc(list, isSolved) {
			return x, err
		}
		if x, err = subst.Many(withVariables(x, numbers, 0), values, simples); err != api.OK {
			return api.Term{}, err
		}
	}
}

// withVariables returns a term in which the metavariables of a list are the first free variables.
func withVariables(x api.Term, list []int, binders int) api.Term {
	result := api.Term{Op: x.Op, Head: x.Head, N: x.N}
	if i := slices.Index(list, x.N); x.Head == api.HMeta && i >= 0 {
		result.Head, result.N = api.HVar, binders+i
	} else if x.Head == api.HVar && x.N >= binders {
		result.N += len(list)
	}
	for i, arg := range x.Args {
		within := binders
		if x.Op == api.TLam || x.Op == api.TPi && i == 1 {
			within++
		}
		result.Args = append(result.Args, withVariables(arg, list, within))
	}
	return result
}

// P8.2, P8.8: resolving is substitution, keeps what is well typed, and is done once

func TestResolveOfMadeTerms(t *testing.T) {
	count, changed := 0, 0
	lists(t, 40, func(made *maker.Maker) {
		all, err := meta.All(made.Metas)
		ctx := made.Context(4)
		x, a, ok := made.Head(ctx, 4)
		if err != api.OK || !ok {
			return
		}
		if n, err := meta.Typed(made.Sig, all); n != len(all) || err != api.OK {
			t.Errorf("All of %v is not typed: error %d at %d", made.Metas, err, n)
		}
		var o outcome
		resolved, class := o.resolve(made.Metas, x), o.resolve(made.Metas, a)
		var context []api.Term
		for _, b := range ctx {
			context = append(context, o.resolve(made.Metas, b))
		}
		want, err := resolvedBySubst(made.Metas, x)
		if o.failed || err != api.OK {
			return
		}
		expectTerm(t, "Resolve", resolved, api.OK, want, api.OK)
		expectTerm(t, "Resolve with All", o.resolve(all, x), api.OK, want, api.OK)
		expectTerm(t, "Resolve again", o.resolve(made.Metas, resolved), api.OK, resolved, api.OK)
		expect(t, "Object", check.Object(made.Sig, all, context, resolved, class), api.OK)
		if count++; !term.Same(x, resolved) {
			changed++
		}
	})
	if count < 1500 || changed < 200 {
		t.Errorf("only %d terms, of which %d change", count, changed)
	}
}

// P8.5, P8.8: what is solved stays formed and typed

func TestSolveKeepsTyped(t *testing.T) {
	made := maker.New(nil)
	count, circles := 0, 0
	for range 100 {
		made.Metas = open()
		for range 15 {
			n := made.Below(len(made.Metas))
			value, ok := made.Object(nil, made.Metas[n].Class, 4)
			if !ok || made.Metas[n].Solved {
				continue
			}
			list, err := meta.Solve(made.Metas, n, value)
			if err == api.ErrScope {
				circles++
				continue
			}
			expect(t, "Solve", err, api.OK)
			expect(t, "Check", meta.Check(list), api.OK)
			if n, err := meta.Typed(made.Sig, list); n != len(list) || err != api.OK {
				t.Errorf("%v is not typed: error %d at %d", list, err, n)
			}
			again, err := meta.All(list)
			expectList(t, "All", again, err, list, api.OK)
			made.Metas = list
			count++
		}
	}
	if count < 300 || circles < 50 {
		t.Errorf("only %d times solved, %d circles", count, circles)
	}
}

// neededBy returns the metavariables that a resolved list needs for a term, each time again.
func neededBy(all []api.Meta, x api.Term) []int {
	var list []int
	if x.Head == api.HMeta {
		list = append(neededBy(all, all[x.N].Class), x.N)
	}
	for _, arg := range x.Args {
		list = append(list, neededBy(all, arg)...)
	}
	return list
}

// once returns the numbers of a list where they are for the first time.
func once(list []int) []int {
	var result []int
	for _, n := range list {
		if !slices.Contains(result, n) {
			result = append(result, n)
		}
	}
	return result
}

// renumbered returns a term in which the metavariables have their positions in a list as their numbers.
func renumbered(x api.Term, list []int) api.Term {
	result := build.App(x.Head, x.N)
	result.Op = x.Op
	if x.Head == api.HMeta {
		result.N = slices.Index(list, x.N)
	}
	for _, arg := range x.Args {
		result.Args = append(result.Args, renumbered(arg, list))
	}
	return result
}

// P8.6, P8.7, P8.8: what is abstracted is a type, and opened again the same

func TestAbstractAndOpen(t *testing.T) {
	count, most := 0, 0
	lists(t, 15, func(made *maker.Maker) {
		all, err := meta.All(made.Metas)
		class, ok := made.Class(nil, 4)
		if err != api.OK || !ok {
			return
		}
		var o outcome
		resolved := o.resolve(made.Metas, class)
		abstract, n, err := meta.Abstract(made.Metas, class)
		if o.failed || err == api.ErrFull {
			return
		}
		expect(t, "Abstract", err, api.OK)
		order := once(neededBy(all, resolved))
		expectOrder(t, made.Metas, class, order, api.OK)
		metas, _ := term.Metas(abstract)
		if n != len(order) || len(metas) > 0 {
			t.Errorf("Abstract(%v) = %v, %d", class, abstract, n)
		}
		expect(t, "Type", check.Type(made.Sig, nil, nil, abstract), api.OK)
		list, objects, rest, err := meta.Open(nil, nil, abstract, n)
		expectTerm(t, "Open of Abstract", rest, err, renumbered(resolved, order), api.OK)
		for i, one := range list {
			expectTerm(t, "a Class of Open", one.Class, api.OK, renumbered(all[order[i]].Class, order), api.OK)
			expect(t, "Object", check.Object(made.Sig, list, nil, objects[i], one.Class), api.OK)
		}
		count++
		most = max(most, n)
	})
	if count < 500 || most < 3 {
		t.Errorf("only %d classes, with at most %d metavariables", count, most)
	}
}

// P8.3, P8.4: what is new is a pattern, and well typed

func TestFreshIsTyped(t *testing.T) {
	count := 0
	lists(t, 12, func(made *maker.Maker) {
		ctx := made.Context(5)
		a, ok := made.Class(ctx, 3)
		if !ok {
			return
		}
		list, object, err := meta.Fresh(made.Metas, "New", ctx, a)
		if err == api.ErrFull {
			return
		}
		expect(t, "Fresh", err, api.OK)
		expect(t, "Object", check.Object(made.Sig, list, ctx, object, a), api.OK)
		expect(t, "Type", check.Type(made.Sig, list, nil, list[len(made.Metas)].Class), api.OK)
		inner := object
		bound := 0
		for inner.Op == api.TLam {
			inner = inner.Args[0]
			bound++
		}
		variables, ok := meta.Pattern(inner)
		var want []int
		for n := range len(ctx) + bound {
			want = append(want, len(ctx)+bound-1-n)
		}
		if !ok || !slices.Equal(variables, want) {
			t.Errorf("Pattern(%v) = %v, %v", inner, variables, ok)
		}
		count++
	})
	if count < 500 {
		t.Errorf("only %d times", count)
	}
}

// P8.8: what is formed stays so, whatever is well typed

func TestSpoiledLists(t *testing.T) {
	errors := map[api.Errno]int{}
	formed := func(name string, list []api.Meta, err api.Errno) {
		errors[err]++
		if err == api.OK {
			expect(t, "Check of "+name, meta.Check(list), api.OK)
		}
	}
	lists(t, 60, func(made *maker.Maker) {
		value, a, ok := made.Head(nil, 3)
		if !ok {
			return
		}
		metas := slices.Clone(made.Metas)
		spoilt := &metas[made.Below(len(metas))]
		if spoilt.Solved {
			spoilt.Value = made.Spoiled(spoilt.Value)
		} else {
			spoilt.Class = made.Spoiled(spoilt.Class)
		}
		n := made.Below(len(metas))
		value, a = made.Spoiled(value), made.Spoiled(a)
		list, err := meta.All(metas)
		formed("All", list, err)
		list, err = meta.Solve(metas, n, value)
		formed("Solve", list, err)
		list, _, err = meta.Fresh(metas, "A", []api.Term{c(nat)}, a)
		formed("Fresh", list, err)
		list, _, _, err = meta.Open(metas, nil, a, 1)
		formed("Open", list, err)
		if abstract, _, err := meta.Abstract(metas, a); err == api.OK {
			free, _ := term.Free(abstract)
			left, err := term.Metas(abstract)
			if err != api.OK || len(free) > 0 || len(left) > 0 {
				t.Errorf("Abstract(%v) = %v", a, abstract)
			}
		}
	})
	for _, err := range []api.Errno{api.OK, api.ErrArg, api.ErrTwice, api.ErrShape, api.ErrScope, api.ErrLevel} {
		if errors[err] < 50 {
			t.Errorf("only %d times error %d", errors[err], err)
		}
	}
}
