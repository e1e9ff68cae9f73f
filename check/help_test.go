package check_test

import (
	"slices"
	"testing"

	"truss/api"
	"truss/build"
	"truss/term"
)

var (
	typ      = build.Type
	to       = build.To
	lam      = build.Lam
	lams     = build.Lams
	v        = build.Var
	c        = build.Con
	m        = build.Meta
	decl     = build.Decl
	implicit = build.Implicit
	many     = build.Flat
	whole    = build.Whole
)

const (
	nat    = build.Nat
	z      = build.Z
	s      = build.S
	plus   = build.Plus
	pz     = build.Pz
	ps     = build.Ps
	vec    = build.Vec
	empty  = build.Empty
	cons   = build.Cons
	tm     = build.Tm
	lambda = build.Lambda
	apply  = build.Apply
	step   = build.Step
	beta   = build.Beta
	each   = build.Each
)

// some returns metavariables whose classes are types over whole.
func some() []api.Meta {
	n := c(nat)
	return []api.Meta{
		{Class: n},
		{Class: to(n, n), Name: "F"},
		{Class: to(n, c(vec, v(0))), Solved: true, Value: typ()},
		{Class: c(vec, c(s, m(0)))},
		{Class: to(to(n, n), to(n, c(vec, v(1, v(0)))), c(vec, m(1, c(z))))},
	}
}

// types returns a context of so many types, all of them nat.
func types(count int) []api.Term { return build.Copies(count, c(nat)) }

// products returns the TPis of so many domains, all of them nat, around a term.
func products(count int, t api.Term) api.Term { return to(append(types(count), t)...) }

func expect(t *testing.T, name string, got, want api.Errno) {
	t.Helper()
	if got != want {
		t.Errorf("%s: error %d, want %d", name, got, want)
	}
}

func expectTerm(t *testing.T, name string, got api.Term, err api.Errno, want api.Term, wantErr api.Errno) {
	t.Helper()
	if err != wantErr || !term.Same(got, want) {
		t.Errorf("%s = %v, %d; want %v, %d", name, got, err, want, wantErr)
	}
}

func isSameSignature(a, b []api.Decl) bool {
	return slices.EqualFunc(a, b, func(a, b api.Decl) bool {
		return a.Name == b.Name && a.Implicit == b.Implicit && term.Same(a.Class, b.Class)
	})
}
