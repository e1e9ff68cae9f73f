package search_test

import (
	"slices"
	"strconv"
	"testing"

	"truss/api"
	"truss/build"
	"truss/elab"
	"truss/maker"
	"truss/print"
	"truss/search"
	"truss/term"
	"truss/unify"
)

// A writer makes goals that look like random ones.
type writer struct {
	*maker.Maker
}

// goal makes a goal in a context, in whose type something may be omitted.
func (w writer) goal() (goal, bool) {
	ctx := w.Context(3)
	a, ok := w.Class(ctx, 4)
	if !ok || len(a.Args) == 0 {
		return goal{}, false
	}
	r, err := print.Raw(w.Sig, nil, len(ctx), a)
	if err != api.OK {
		return goal{}, false
	}
	var names []string
	for n := range ctx {
		names = append(names, "x"+strconv.Itoa(n+1))
	}
	p, a, err := elab.Type(w.Sig, api.Problem{}, ctx, names, w.Omitting(w.Omitting(r, names), names))
	return goal{w.Sig, p.Metas, ctx, a}, err == api.OK && len(p.Left) == 0
}

// P13.5: solutions are objects of the goal, and not higher than the depth

func TestSound(t *testing.T) {
	w := writer{maker.New(nil)}
	errors := map[api.Errno]int{}
	solutions, open, stuck, functions := 0, 0, 0, 0
	for range 15000 {
		g, ok := w.goal()
		if !ok {
			continue
		}
		depth := w.Below(5)
		got, err := g.solve(depth, 1+w.Below(12))
		errors[err]++
		stuck += got.Stuck
		for _, found := range got.List {
			g.expectSound(t, found, depth)
			solutions++
			if found.Proof.Op == api.TLam {
				functions++
			}
			if left, _ := term.Metas(found.Proof); len(left) > 0 {
				open++
			}
		}
	}
	if errors[api.OK] < 2000 || solutions < 4000 || open < 200 || stuck < 150 || functions < 1000 {
		t.Errorf("only %v, %d solutions, %d of them with metavariables, %d functions, %d stuck", errors, solutions, open, functions, stuck)
	}
}

// firstOrder returns a signature with the families of Whole in which no domain is a TPi.
func firstOrder() []api.Decl {
	sig := whole()
	t := c(tm)
	sig[build.Lambda].Class = to(t, t)
	sig[build.Beta].Class = to(t, t, c(build.Step, c(build.Apply, c(build.Lambda, v(1)), v(0)), v(1)))
	sig[build.Each].Class = to(c(nat), c(plus, v(0), v(0), v(0)), c(vec, c(s, v(1))))
	return sig
}

// isFirstOrder reports whether no domain of a type is a TPi.
func isFirstOrder(a api.Term) bool {
	for a.Op == api.TPi {
		if a.Args[0].Op == api.TPi {
			return false
		}
		a = a.Args[1]
	}
	return true
}

// P13.6: each object of a goal is an instance of a solution

func TestComplete(t *testing.T) {
	w := writer{maker.New(nil)}
	w.Sig = firstOrder()
	count, proper, heights := 0, 0, map[int]int{}
	for range 12000 {
		ctx := w.Context(4)
		isHigher := func(a api.Term) bool { return !isFirstOrder(a) }
		if slices.ContainsFunc(ctx, isHigher) {
			continue
		}
		object, a, ok := w.Head(ctx, 4)
		if !ok {
			continue
		}
		height, err := search.Height(w.Sig, ctx, object)
		if err != api.OK {
			t.Errorf("Height of %v: error %d", object, err)
		}
		g := goal{w.Sig, nil, ctx, a}
		got, err := g.solve(height, api.MaxAnswers)
		if err != api.OK || len(got.List) == api.MaxAnswers || got.Stuck > 0 {
			continue
		}
		isInstance := func(found api.Found) bool { return g.hasInstance(t, found, object) }
		if !slices.ContainsFunc(got.List, isInstance) {
			t.Errorf("%v, of the height %d, is no instance of a solution of %v", object, height, a)
		}
		count++
		heights[height]++
		for _, found := range got.List {
			if left, _ := term.Metas(found.Proof); len(left) > 0 {
				proper++
				break
			}
		}
	}
	if count < 3000 || heights[1] < 300 || heights[2] < 300 || heights[3] < 100 {
		t.Errorf("only %d objects, of the heights %v", count, heights)
	}
}

// hasInstance reports whether an object is an instance of that of a solution.
func (g goal) hasInstance(t *testing.T, found api.Found, object api.Term) bool {
	t.Helper()
	p, err := unify.Unify(g.sig, found.Metas, []api.Equation{{Ctx: g.ctx, A: found.Proof, B: object, Class: g.a}})
	return err == api.OK && len(p.Left) == 0
}

// P13.7: a greater depth, and more solutions

func TestMore(t *testing.T) {
	w := writer{maker.New(nil)}
	whole, cut, fewer := 0, 0, 0
	for range 9000 {
		g, ok := w.goal()
		if !ok {
			continue
		}
		depth := w.Below(4)
		most := 1 + w.Below(9)
		all, err := g.solve(depth, api.MaxAnswers)
		if err != api.OK {
			continue
		}
		some, err := g.solve(depth, most)
		if err != api.OK || !startsWith(all.List, some.List) || len(some.List) != min(most, len(all.List)) || some.Stuck > all.Stuck || some.Cut && !all.Cut {
			t.Errorf("Solve of %v has %v, %d; with fewer ones %v", g, all, err, some)
		}
		if len(some.List) < len(all.List) {
			fewer++
		}
		deeper, err := g.solve(depth+1, api.MaxAnswers)
		if err != api.OK || len(deeper.List) == api.MaxAnswers || len(all.List) == api.MaxAnswers {
			continue
		}
		if !all.Cut {
			whole++
			if !sameAnswers(all, deeper) {
				t.Errorf("Solve of %v has %v, one deeper %v", g, all, deeper)
			}
			continue
		}
		cut++
		if !isWithin(all.List, deeper.List) {
			t.Errorf("Solve of %v has %v, one deeper only %v", g, all, deeper)
		}
	}
	if whole < 500 || cut < 800 || fewer < 120 {
		t.Errorf("only %d are not cut, %d cut, %d with fewer solutions", whole, cut, fewer)
	}
}

func startsWith(list, first []api.Found) bool {
	return len(first) <= len(list) && slices.EqualFunc(list[:len(first)], first, sameFound)
}

// isWithin reports whether solutions are among others, in their order.
func isWithin(some, all []api.Found) bool {
	for _, found := range all {
		if len(some) > 0 && sameFound(some[0], found) {
			some = some[1:]
		}
	}
	return len(some) == 0
}
