package unify_test

import (
	"slices"
	"testing"

	"truss/api"
	"truss/maker"
	"truss/meta"
	"truss/term"
	"truss/unify"
)

// P9.5, P9.6, P9.7: puzzles are solved, in the most general way, by what is well typed

func TestPuzzles(t *testing.T) {
	made := maker.New(nil)
	left, done, cuts := 0, 0, 0
	for range 4000 {
		p := newPuzzle(made, 4, false)
		if len(p.metas) > api.MaxMetas {
			continue
		}
		expectSolved(t, p.Sig, p.solution(), p.list)
		after, err := unify.Unify(p.Sig, p.metas, p.list)
		if err == api.ErrFull {
			continue
		}
		if err != api.OK {
			t.Errorf("Unify(%v, %v) = %d; there is the solution %v", p.metas, p.list, err, p.values)
			continue
		}
		p.checkTrue(t, after)
		if len(after.Metas) > len(p.metas) {
			cuts++
		}
		if n, err := meta.Typed(p.Sig, after.Metas); n != len(after.Metas) || err != api.OK {
			t.Errorf("%v is not typed: error %d at %d", after.Metas, err, n)
		}
		if len(after.Left) > 0 {
			left++
			continue
		}
		expectSolved(t, p.Sig, after.Metas, p.list)
		done++
	}
	if left < 1000 || done < 1000 || cuts < 200 {
		t.Errorf("only %d puzzles that are solved, %d that are not, %d with a cut", done, left, cuts)
	}
}

// instance reports whether one solution of the metavariables of a puzzle is an instance of another one.
func (p *puzzle) instance(t *testing.T, one, other []api.Meta) bool {
	t.Helper()
	metas := slices.Concat(one, renumbered(other, len(one)))
	var list []api.Equation
	for n, x := range p.metas {
		list = append(list, api.Equation{A: object(p.metas, n), B: moved(object(p.metas, n), len(one)), Class: x.Class})
	}
	if len(metas) > api.MaxMetas || len(list) > api.MaxLeft {
		return true
	}
	found, err := unify.Match(p.Sig, metas, len(one), list)
	return err == api.OK && len(found.Left) == 0
}

// moved returns a term with greater numbers of metavariables.
func moved(x api.Term, by int) api.Term {
	result := api.Term{Op: x.Op, Head: x.Head, N: x.N}
	if x.Head == api.HMeta {
		result.N += by
	}
	for _, arg := range x.Args {
		result.Args = append(result.Args, moved(arg, by))
	}
	return result
}

func renumbered(metas []api.Meta, by int) []api.Meta {
	var result []api.Meta
	for _, x := range metas {
		result = append(result, api.Meta{Class: moved(x.Class, by), Solved: x.Solved, Value: moved(x.Value, by)})
	}
	return result
}

// P9.8: in the pattern fragment the order does not matter, and nothing is left

func TestPatternPuzzles(t *testing.T) {
	made := maker.New(nil)
	done, cuts, failed := 0, 0, 0
	for range 4000 {
		p := newPuzzle(made, 4, true)
		isSpoilt := p.Below(2) == 0
		if isSpoilt {
			p.spoil()
		}
		if len(p.metas) > api.MaxMetas {
			continue
		}
		after, err := unify.Unify(p.Sig, p.metas, p.list)
		again, againErr := unify.Unify(p.Sig, p.metas, p.shuffled())
		switch {
		case err == api.ErrFull || againErr == api.ErrFull:
			continue
		case (err == api.OK) != (againErr == api.OK):
			t.Errorf("Unify(%v, %v) = %d, and %d in another order", p.metas, p.list, err, againErr)
		case err != api.OK && !isSpoilt || err != api.OK && err != api.ErrClash && err != api.ErrScope:
			t.Errorf("Unify(%v, %v) = %d; there is the solution %v", p.metas, p.list, err, p.values)
		case err != api.OK:
			failed++
			continue
		}
		if len(after.Left) > 0 || len(again.Left) > 0 {
			t.Errorf("Unify(%v, %v) leaves %v, %v", p.metas, p.list, after.Left, again.Left)
		}
		expectSolved(t, p.Sig, after.Metas, p.list)
		expectSolved(t, p.Sig, again.Metas, p.list)
		if !p.instance(t, after.Metas, again.Metas) || !p.instance(t, again.Metas, after.Metas) {
			t.Errorf("Unify(%v, %v) = %v, and %v in another order", p.metas, p.list, after.Metas, again.Metas)
		}
		if !isSpoilt {
			p.checkTrue(t, after)
		}
		done++
		if len(after.Metas) > len(p.metas) {
			cuts++
		}
	}
	if done < 1000 || cuts < 200 || failed < 300 {
		t.Errorf("only %d puzzles that are solved, %d with a cut; %d that have no solution", done, cuts, failed)
	}
}

// spoil makes one side of an equation another object, with some parts of it hidden.
func (p *puzzle) spoil() {
	q := &p.list[p.Below(len(p.list))]
	q.B = p.hidden(q.Ctx, p.object(q.Ctx, q.Class, 4), q.Class)
}

// open returns metavariables whose Classes are types over whole and contain each other, none of them solved.
func open() []api.Meta {
	n, t := c(nat), c(tm)
	fun := to(n, n)
	return []api.Meta{
		hole(n), named("F", fun), hole(to(n, c(vec, v(0)))), hole(c(vec, c(s, m(0)))), hole(c(plus, c(z), m(0), m(0))),
		hole(to(fun, to(n, c(vec, v(1, v(0)))), c(vec, m(1, c(z))))), named("T", t), hole(to(t, t)), hole(to(to(t, t), t)), hole(n), hole(c(vec, m(9))),
	}
}

// partly returns a list in which some metavariables have values, of their types, which other ones may be in.
func partly(made *maker.Maker) []api.Meta {
	for range made.Below(12) {
		n := made.Below(len(made.Metas))
		value, ok := made.Object(nil, made.Metas[n].Class, 4)
		if list, err := meta.Solve(made.Metas, n, value); ok && err == api.OK {
			made.Metas = list
		}
	}
	return made.Metas
}

// P9.5, P9.6: objects with dependent types, and what they become by values

func TestDependent(t *testing.T) {
	made := maker.New(nil)
	count, changed, left := 0, 0, 0
	for range 1500 {
		made.Metas = open()
		ctx := made.Context(4)
		x, a, ok := made.Head(ctx, 4)
		y := resolvedBy(partly(made), x)
		if !ok || y.Op == 0 {
			continue
		}
		q := api.Equation{Ctx: ctx, A: x, B: y, Class: a}
		p, err := unify.Unify(made.Sig, open(), list(q))
		if err != api.OK {
			t.Errorf("Unify(%v) = %d; there is the solution %v", q, err, made.Metas)
			continue
		}
		count++
		if !term.Same(x, y) {
			changed++
		}
		if len(p.Left) > 0 {
			left++
		} else {
			expectSolved(t, made.Sig, p.Metas, list(q))
		}
		// The values are still a solution.
		more := p.Left
		for n, known := range made.Metas {
			if known.Solved {
				more = append(more, api.Equation{A: object(open(), n), B: known.Value, Class: known.Class})
			}
		}
		p, err = unify.Unify(made.Sig, p.Metas, more)
		expect(t, "Unify with the values", err, api.OK)
		if len(p.Left) == 0 {
			expectSolved(t, made.Sig, p.Metas, list(q))
		}
	}
	if count < 500 || changed < 100 || left < 10 {
		t.Errorf("only %d equations, %d of different sides, %d that are left", count, changed, left)
	}
}

func resolvedBy(metas []api.Meta, x api.Term) api.Term {
	y, _ := meta.Resolve(metas, x)
	return y
}

// P9.7: of two objects of a type, with dependent types

func TestTypedResults(t *testing.T) {
	made := maker.New(open())
	solvedOnes, failed := 0, 0
	for range 10000 {
		ctx := made.Context(4)
		x, a, ok := made.Head(ctx, 4)
		if !ok {
			continue
		}
		y, ok := made.Object(ctx, a, 4)
		if !ok {
			continue
		}
		q := api.Equation{Ctx: ctx, A: x, B: y, Class: a}
		p, err := unify.Unify(made.Sig, made.Metas, list(q))
		if err != api.OK {
			failed++
			continue
		}
		if len(p.Left) > 0 {
			continue
		}
		expectSolved(t, made.Sig, p.Metas, list(q))
		if n, err := meta.Typed(made.Sig, p.Metas); n != len(p.Metas) || err != api.OK {
			t.Errorf("Unify(%v) = %v is not typed: error %d at %d", q, p.Metas, err, n)
		}
		if slices.ContainsFunc(p.Metas, func(x api.Meta) bool { return x.Solved }) {
			solvedOnes++
		}
	}
	if solvedOnes < 250 || failed < 50 {
		t.Errorf("only %d solutions, %d errors", solvedOnes, failed)
	}
}

// P9.1 to P9.4: whatever the arguments are, there is a result, and what is returned is formed

func TestSpoiledEquations(t *testing.T) {
	made := maker.New(open())
	errors := map[api.Errno]int{}
	for range 20000 {
		ctx := made.Context(3)
		x, a, ok := made.Head(ctx, 3)
		y, fits := made.Object(ctx, a, 3)
		if !ok || !fits {
			continue
		}
		q := api.Equation{Ctx: ctx, A: made.Spoiled(x), B: made.Spoiled(y), Class: made.Spoiled(a)}
		l := list(q, api.Equation{Ctx: ctx, A: made.Spoiled(y), B: x, Class: a})
		p, err := unify.Unify(made.Sig, made.Metas, l)
		errors[err]++
		if err == api.OK {
			expect(t, "Check", meta.Check(p.Metas), api.OK)
			_, err := unify.Solves(made.Sig, p.Metas, p.Left)
			expect(t, "Solves", err, api.OK)
		}
		n := made.Below(len(made.Metas) + 1)
		p, err = unify.Match(made.Sig, made.Metas, n, l)
		for k := range min(n, len(p.Metas)) {
			if err == api.OK && p.Metas[k].Solved {
				t.Errorf("Match with %d gives a value to %d", n, k)
			}
		}
		p, err = unify.Types(made.Sig, made.Metas, ctx, a, q.Class)
		if err == api.OK {
			expect(t, "Check", meta.Check(p.Metas), api.OK)
		}
	}
	for _, err := range []api.Errno{api.OK, api.ErrShape, api.ErrClash, api.ErrScope} {
		if errors[err] < 100 {
			t.Errorf("only %d times error %d", errors[err], err)
		}
	}
}
