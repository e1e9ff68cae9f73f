package unify_test

import (
	"slices"
	"testing"

	"truss/api"
	"truss/build"
	"truss/unify"
)

var (
	typ    = build.Type
	pi     = build.Pi
	to     = build.To
	lam    = build.Lam
	lams   = build.Lams
	v      = build.Var
	c      = build.Con
	m      = build.Meta
	decl   = build.Decl
	hole   = build.Hole
	named  = build.Named
	solved = build.Solved
	copies = build.Copies
	whole  = build.Whole
	nats   = build.Nats
	arrows = build.Arrows
	terms  = build.Terms
)

const (
	nat    = build.Nat
	z      = build.Z
	s      = build.S
	plus   = build.Plus
	pz     = build.Pz
	ps     = build.Ps
	vec    = build.Vec
	empty  = build.Empty
	cons   = build.Cons
	tm     = build.Tm
	lambda = build.Lambda
	apply  = build.Apply
	step   = build.Step
)

// some returns metavariables, none of them solved: number n (from 0 to 3) takes n numbers, number 4 a function.
func some() []api.Meta {
	return []api.Meta{hole(arrows(0)), hole(arrows(1)), hole(arrows(2)), hole(arrows(3)), hole(to(arrows(1), c(nat)))}
}

// eq returns an equation of two numbers in a context of so many numbers.
func eq(variables int, a, b api.Term) api.Equation {
	return api.Equation{Ctx: nats(variables), A: a, B: b, Class: c(nat)}
}

func list(l ...api.Equation) []api.Equation { return l }

// with returns a copy of a list in which a metavariable has a value.
func with(metas []api.Meta, n int, value api.Term) []api.Meta {
	result := slices.Clone(metas)
	result[n].Solved, result[n].Value = true, value
	return result
}

func expect(t *testing.T, name string, got, want api.Errno) {
	t.Helper()
	if got != want {
		t.Errorf("%s: error %d, want %d", name, got, want)
	}
}

func expectProblem(t *testing.T, name string, got api.Problem, err api.Errno, want api.Problem) {
	t.Helper()
	if err != api.OK || !build.SameProblem(got, want) {
		t.Errorf("%s = %v, %d; want %v", name, got, err, want)
	}
}

// expectUnified checks what Unify comes to.
func expectUnified(t *testing.T, metas []api.Meta, l []api.Equation, want []api.Meta, left ...api.Equation) {
	t.Helper()
	p, err := unify.Unify(whole(), metas, l)
	expectProblem(t, "Unify", p, err, api.Problem{Metas: want, Left: left})
}

// expectFailed checks that Unify has an error, and no result.
func expectFailed(t *testing.T, metas []api.Meta, l []api.Equation, want api.Errno) {
	t.Helper()
	p, err := unify.Unify(whole(), metas, l)
	expectNothing(t, "Unify", p, err, want)
}

func expectNothing(t *testing.T, name string, p api.Problem, err, want api.Errno) {
	t.Helper()
	if err != want || len(p.Metas) > 0 || len(p.Left) > 0 {
		t.Errorf("%s = %v, %d; want error %d", name, p, err, want)
	}
}
