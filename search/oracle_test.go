package search_test

import (
	"slices"
	"testing"

	"truss/api"
	"truss/equate"
	"truss/maker"
	"truss/meta"
	"truss/scope"
	"truss/sign"
	"truss/stop"
	"truss/subst"
	"truss/term"
	"truss/unify"
	"truss/written"
)

// An oracle derives goals as the chapter says, in another way: what is to be done with each result is given to what finds it,
// and errors are returned.
type oracle struct {
	sig   []api.Decl
	most  int
	tries int
	found api.Answers
}

// enough is what is returned when there are as many solutions as are asked for.
const enough api.Errno = -1

// then is what is done with a result; an error ends the search.
type then func(p api.Problem, object api.Term) api.Errno

func (o *oracle) solve(g goal, depth int) (api.Answers, api.Errno) {
	metas, err := meta.All(g.metas)
	if err != api.OK {
		return api.Answers{}, err
	}
	err = o.derive(api.Problem{Metas: metas}, g.ctx, g.a, depth, func(p api.Problem, object api.Term) api.Errno {
		if len(p.Left) > 0 {
			o.found.Stuck++
			return api.OK
		}
		all, err := meta.All(p.Metas)
		if err != api.OK {
			return err
		}
		if term.Check(object) != api.OK {
			return api.ErrFull
		}
		proof, err := meta.Resolve(p.Metas, object)
		if err != api.OK {
			return err
		}
		o.found.List = append(o.found.List, api.Found{Metas: all, Proof: proof})
		if len(o.found.List) == o.most {
			return enough
		}
		return api.OK
	})
	if err != api.OK && err != enough {
		return api.Answers{}, err
	}
	return o.found, api.OK
}

func (o *oracle) derive(p api.Problem, ctx []api.Term, a api.Term, depth int, do then) api.Errno {
	a, err := meta.Resolve(p.Metas, a)
	if err != api.OK {
		return err
	}
	if a.Op == api.TPi {
		if len(ctx) == api.MaxCtx {
			return api.ErrFull
		}
		longer := append(slices.Clone(ctx), a.Args[0])
		return o.derive(p, longer, a.Args[1], depth, func(p api.Problem, object api.Term) api.Errno { return do(p, lam(object)) })
	}
	isFamily := false
	if a.Head == api.HCon {
		isFamily, _ = sign.IsFamily(o.sig, a.N)
	}
	if !isFamily {
		return api.OK
	}
	if depth == 0 {
		o.found.Cut = true
		return api.OK
	}
	for n := range ctx {
		b := ctx[len(ctx)-1-n]
		if _, end, _ := term.Split(b); end.Head != api.HCon || end.N != a.N {
			continue
		}
		class, err := term.Shift(b, n+1, 0)
		if err != api.OK {
			return err
		}
		if err := o.attempt(p, ctx, v(n), class, a, depth, do); err != api.OK {
			return err
		}
	}
	constants, _ := sign.Of(o.sig, a.N)
	for _, n := range constants {
		if err := o.attempt(p, ctx, c(n), o.sig[n].Class, a, depth, do); err != api.OK {
			return err
		}
	}
	return api.OK
}

// attempt tries a head.
func (o *oracle) attempt(p api.Problem, ctx []api.Term, head, class, a api.Term, depth int, do then) api.Errno {
	o.tries++
	if o.tries > api.MaxTries {
		return api.ErrFuel
	}
	spine := map[int]api.Term{}
	goals := map[int]api.Term{}
	count := 0
	for ; class.Op == api.TPi; count++ {
		occurs, _ := term.Occurs(class.Args[1], 0)
		if !occurs {
			goals[count] = class.Args[0]
			class, _ = term.Shift(class.Args[1], -1, 0)
			continue
		}
		metas, object, err := meta.Fresh(p.Metas, "", ctx, class.Args[0])
		if err != api.OK {
			return err
		}
		if class, err = subst.Instance(class, []api.Term{object}); err != api.OK {
			return err
		}
		p.Metas, spine[count] = metas, object
	}
	p, err := demanded(o.sig, p, ctx, class, a)
	if err == api.ErrClash || err == api.ErrScope || err == api.ErrShape {
		return api.OK
	}
	if err != api.OK {
		return err
	}
	return o.premises(p, ctx, head, spine, goals, count, depth-1, do)
}

// premises derives the premises of a head at the positions before one.
func (o *oracle) premises(p api.Problem, ctx []api.Term, head api.Term, spine, goals map[int]api.Term, before, depth int, do then) api.Errno {
	for at := before - 1; at >= 0; at-- {
		a, ok := goals[at]
		if !ok {
			continue
		}
		return o.derive(p, ctx, a, depth, func(p api.Problem, object api.Term) api.Errno {
			spine[at] = object
			return o.premises(p, ctx, head, spine, goals, at, depth, do)
		})
	}
	for at := range len(spine) {
		head.Args = append(head.Args, spine[at])
	}
	return do(p, head)
}

// demanded returns the state in which two types are equal.
func demanded(sig []api.Decl, p api.Problem, ctx []api.Term, a, b api.Term) (api.Problem, api.Errno) {
	if len(p.Left) == 0 {
		return unify.Types(sig, p.Metas, ctx, a, b)
	}
	list, err := stop.Result(func() []api.Equation { return equate.Types(sig, ctx, a, b) })
	if err != api.OK {
		return api.Problem{}, err
	}
	if list = append(slices.Clone(p.Left), list...); len(list) > api.MaxLeft {
		return api.Problem{}, api.ErrFull
	}
	return unify.Unify(sig, p.Metas, list)
}

// expectOracle checks that Solve comes to the same as the oracle.
func (g goal) expectOracle(t *testing.T, depth, most int) (api.Answers, api.Errno) {
	t.Helper()
	got, err := g.solve(depth, most)
	o := &oracle{sig: g.sig, most: most}
	want, wantErr := o.solve(g, depth)
	if err != wantErr || !sameAnswers(got, want) {
		t.Errorf("Solve of %v to the depth %d = %v, %d; want %v, %d", g, depth, got, err, want, wantErr)
	}
	return got, err
}

// P13.2: what the oracle finds, for goals of all kinds

func TestOracle(t *testing.T) {
	sig := written.Sig(numbers + logic + lambdas)
	for text, depth := range map[string]int{
		"plus X Y (s (s (s z)))": 6, "plus X Y Z": 5, "nat -> nat -> nat": 4, "(nat -> nat) -> nat": 5, "pf X": 5, "pf (imp X Y) -> pf (imp a b)": 4,
		"of (lam [x] x) X": 5, "of (lam [x] lam [y] app x y) X": 7, "of X (arr one one)": 4, "{x:tm} of x one -> of (app (lam [y] x) x) X": 6,
		"of (lam [x] app x x) X": 7, "of X Y": 3, "tm": 4, "tp -> tm": 3,
	} {
		for _, most := range []int{1, 3, api.MaxAnswers} {
			for d := range depth + 1 {
				goalOf(t, sig, text).expectOracle(t, d, most)
			}
		}
	}
}

func TestMadeGoals(t *testing.T) {
	w := writer{maker.New(nil)}
	errors := map[api.Errno]int{}
	solutions, stuck := 0, 0
	for range 6000 {
		g, ok := w.goal()
		if !ok {
			continue
		}
		got, err := g.expectOracle(t, w.Below(5), 1+w.Below(15))
		errors[err]++
		solutions += len(got.List)
		stuck += got.Stuck
	}
	if errors[api.OK] < 1000 || solutions < 1000 || stuck < 60 {
		t.Errorf("only %v, %d solutions, %d stuck", errors, solutions, stuck)
	}
}

// What is not well typed: signatures that are formed alone, and any contexts and goals.
func TestWildGoals(t *testing.T) {
	w := writer{maker.New([]api.Meta{hole(c(nat)), hole(arrows(1)), hole(to(c(nat), c(vec, v(0)))), hole(c(tm)), hole(to(c(tm), c(tm)))})}
	valid := w.Sig
	errors := map[api.Errno]int{}
	for range 25000 {
		ctx := w.Context(3)
		a, ok := w.Class(ctx, 4)
		if !ok {
			continue
		}
		g := goal{slices.Clone(valid), slices.Clone(w.Metas), ctx, a}
		for range w.Below(3) {
			n := w.Below(len(valid))
			g.sig[n].Class = w.Spoiled(g.sig[n].Class)
			g.a = w.Spoiled(g.a)
			if n := w.Below(len(g.metas)); w.Below(4) == 0 {
				g.metas[n].Class = w.Spoiled(g.metas[n].Class)
			}
			if len(ctx) > 0 && w.Below(4) == 0 {
				n := w.Below(len(ctx))
				g.ctx = slices.Clone(ctx)
				g.ctx[n] = w.Spoiled(ctx[n])
			}
		}
		if sign.Check(g.sig) != api.OK || meta.Check(g.metas) != api.OK || !scope.IsContext(g.metas, g.ctx) || !scope.IsOver(g.metas, g.a) {
			continue
		}
		_, err := g.expectOracle(t, w.Below(5), 1+w.Below(15))
		errors[err]++
	}
	if errors[api.OK] < 5000 || errors[api.ErrShape] < 15 || errors[api.ErrLevel] < 80 || errors[api.ErrScope] < 20 {
		t.Errorf("only %v", errors)
	}
}
