package search_test

import (
	"slices"
	"testing"

	"truss/api"
	"truss/build"
	"truss/search"
	"truss/written"
)

// expectArgs checks that all functions that take what a goal consists of have ErrArg, whatever else is wrong.
func (g goal) expectArgs(t *testing.T) {
	t.Helper()
	for _, depth := range []int{0, 1, -1, api.MaxSearch + 1} {
		for _, most := range []int{1, 0, api.MaxAnswers + 1} {
			g.expectError(t, depth, most, api.ErrArg)
		}
		g.expectNoFirst(t, depth, api.ErrArg)
	}
}

// expectHeadsArg checks that Heads and Height have ErrArg.
func (g goal) expectHeadsArg(t *testing.T) {
	t.Helper()
	for _, family := range []int{nat, z, -1, 1000} {
		if list, err := search.Heads(g.sig, g.ctx, family); len(list) > 0 || err != api.ErrArg {
			t.Errorf("Heads = %v, %d", list, err)
		}
	}
	for _, proof := range []api.Term{g.a, c(z), typ(), v(99), m(3)} {
		g.expectHeight(t, proof, 0, api.ErrArg)
	}
}

// P13.1 to P13.4: ErrArg of all functions, before all other errors

func TestUnformed(t *testing.T) {
	for _, sig := range build.Unformed() {
		g := goal{sig: sig, a: c(nat)}
		g.expectArgs(t)
		g.expectHeadsArg(t)
		for _, n := range []int{0, 1, -1, 1000} {
			if got, err := search.Rule(sig, n); err != api.ErrArg || len(got.Dependent) > 0 || len(got.Premises) > 0 {
				t.Errorf("Rule = %v, %d", got, err)
			}
		}
		for _, text := range []string{"nat", "k", "type"} {
			if got, err := search.Query(sig, written.Raw(text), -1, 0); err != api.ErrArg || !isNothing(got) {
				t.Errorf("Query = %v, %d", got, err)
			}
		}
	}
}

func TestArguments(t *testing.T) {
	right := goal{whole(), []api.Meta{hole(c(nat))}, nats(1), c(nat)}
	for _, metas := range [][]api.Meta{
		slices.Repeat([]api.Meta{hole(c(nat))}, api.MaxMetas+1), {hole(v(0))}, {hole(m(0))}, {hole(typ())}, {named("a", c(nat))}, {named("A", c(nat)), named("A", c(nat))},
		{build.Solved(c(nat), c(s, m(0)))}, {{Class: c(nat), Value: c(z)}}, make([]api.Meta, 100000),
	} {
		g := right
		g.metas = metas
		g.expectArgs(t)
	}
	for _, ctx := range [][]api.Term{nats(api.MaxCtx + 1), nats(100000)} {
		g := right
		g.ctx = ctx
		g.expectArgs(t)
		g.expectHeadsArg(t)
	}
	for _, wrong := range build.Improper() {
		g := right
		g.a = wrong
		g.expectArgs(t)
		g.expectHeight(t, wrong, 0, api.ErrArg)
		for _, ctx := range [][]api.Term{{wrong}, {c(nat), wrong}, {wrong, c(nat)}} {
			g = right
			g.ctx = ctx
			g.expectArgs(t)
			g.expectHeadsArg(t)
		}
	}
	// A metavariable that there is not: Heads and Height have no list of them.
	for _, wrong := range []api.Term{m(1), c(s, m(1)), to(c(nat), m(api.MaxN))} {
		g := right
		g.a = wrong
		g.expectArgs(t)
		g = right
		g.ctx = []api.Term{wrong}
		g.expectArgs(t)
		expectHeads(t, g.sig, g.ctx, nat, c(z), c(s))
		g.expectHeight(t, c(s, c(z)), 2, api.OK)
	}
	for _, r := range []api.Raw{{}, {Op: 8}, {Op: api.RName}, {Op: api.RApp}, {Op: api.RName, Name: "type"}} {
		if got, err := search.Query(whole(), r, 1, 1); err != api.ErrArg || !isNothing(got) {
			t.Errorf("Query of %v = %v, %d", r, got, err)
		}
	}
	// What the limits allow.
	for _, g := range []goal{
		{sig: build.Flat(api.MaxDecls), a: c(0)}, {sig: whole(), ctx: nats(api.MaxCtx), a: c(nat)}, {sig: whole(), metas: slices.Repeat(right.metas, api.MaxMetas), a: c(nat)},
	} {
		if got, err := g.solve(1, 1); err != api.OK || len(got.List) != 1 {
			t.Errorf("Solve = %v, %d", got, err)
		}
	}
}

// Rule 4 of DOC.md

func TestMemory(t *testing.T) {
	sig := written.Sig(numbers + "p : (nat -> nat) -> nat -> type. k : p F (F N) <- plus N N N.")
	g := goal{sig, []api.Meta{build.Solved(arrows(1), lam(c(s, v(0)))), named("N", c(nat))}, nats(2), c(written.Constant(sig, "p"), lam(m(0, v(0))), m(1))}
	got, err := g.solve(4, 9)
	again, _ := g.solve(4, 9)
	first, depth, firstErr := g.first(4)
	if err != api.OK || len(got.List) == 0 || firstErr != api.OK || depth != 2 {
		t.Fatalf("Solve = %v, %d; First = %v, %d, %d", got, err, first, depth, firstErr)
	}
	list, _ := search.Heads(g.sig, g.ctx, nat)
	clause, _ := search.Rule(g.sig, ps)
	arguments := append(build.Classes(g.sig), g.ctx...)
	arguments = append(append(arguments, build.Parts(g.metas)...), g.a)
	results := append(build.Parts(first.Metas), first.Proof)
	for _, found := range got.List {
		results = append(append(results, build.Parts(found.Metas)...), found.Proof)
	}
	if !build.Apart(arguments, results) {
		t.Error("results share memory with each other or with arguments")
	}
	clause.Dependent[0], clause.Premises[0], list[0].N = -1, -1, -1
	expectRule(t, g.sig, ps, []int{0, 1, 2}, []int{3})
	expectHeads(t, g.sig, g.ctx, nat, v(0), v(1), c(z), c(s))
	if third, err := g.solve(4, 9); err != api.OK || !sameAnswers(third, again) {
		t.Errorf("Solve = %v, %d", third, err)
	}
}
