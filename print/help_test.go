package print_test

import (
	"slices"
	"strings"
	"testing"

	"truss/api"
	"truss/build"
	"truss/syntax"
	"truss/term"
)

var (
	typ      = build.Type
	pi       = build.Pi
	to       = build.To
	lam      = build.Lam
	lams     = build.Lams
	v        = build.Var
	c        = build.Con
	m        = build.Meta
	decl     = build.Decl
	implicit = build.Implicit
	copies   = build.Copies
	whole    = build.Whole
)

const (
	nat    = build.Nat
	z      = build.Z
	s      = build.S
	plus   = build.Plus
	pz     = build.Pz
	ps     = build.Ps
	vec    = build.Vec
	cons   = build.Cons
	tm     = build.Tm
	lambda = build.Lambda
	apply  = build.Apply
	step   = build.Step
)

// some returns metavariables, one of which has no name.
func some() []api.Meta {
	return []api.Meta{{Name: "N", Class: c(nat)}, {Class: to(c(nat), c(nat))}, {Name: "X1'", Class: c(tm), Solved: true, Value: c(z)}}
}

// named returns a valid signature of a family and so many objects of these names.
func named(names ...string) []api.Decl {
	sig := []api.Decl{decl("a", typ())}
	for _, name := range names {
		sig = append(sig, decl(name, c(0)))
	}
	return sig
}

// primed returns the names that consist of a text and 0, 1, 2, ... signs ', so many of them.
func primed(text string, count int) []string {
	var names []string
	for i := range count {
		names = append(names, text+strings.Repeat("'", i))
	}
	return names
}

// unformed returns signatures that are not formed.
func unformed() [][]api.Decl {
	return [][]api.Decl{
		named("X"), named("b", "b"), named("type"), build.Flat(api.MaxDecls + 1),
		{decl("a", c(0))}, {decl("a", typ()), implicit(1, decl("b", c(0)))}, {decl("a", lam(typ()))}, {decl("a", build.Endless(api.TPi))},
	}
}

// bush returns a term of so many nodes, at least 200, whose raw expression is nested less deep than MaxDepth.
func bush(nodes int) api.Term {
	list := copies(nodes-191, c(z))
	list = append(list, copies(19, c(z, copies(9, c(z))...))...)
	return c(s, list...)
}

func expect(t *testing.T, name string, got, want api.Errno) {
	t.Helper()
	if got != want {
		t.Errorf("%s: error %d, want %d", name, got, want)
	}
}

func expectText(t *testing.T, name, got string, err api.Errno, want string, wantErr api.Errno) {
	t.Helper()
	if got != want || err != wantErr {
		t.Errorf("%s = %q, %d; want %q, %d", name, got, err, want, wantErr)
	}
}

// expectRaw checks Raw and Text of a term: its text as wanted is read to know the raw expression.
func expectRaw(t *testing.T, sig []api.Decl, metas []api.Meta, n int, x api.Term, want string) {
	t.Helper()
	text, err := textOf(sig, metas, n, x)
	expectText(t, "Text", text, err, want, api.OK)
	r, err := rawOf(sig, metas, n, x)
	wanted, _, wantErr := syntax.Expr(want)
	if err != api.OK || wantErr != api.OK || !syntax.Same(r, wanted) {
		t.Errorf("Raw of %v = %v, %d; want %v", x, r, err, wanted)
	}
}

// expectError checks that Raw and Text of a term have this error.
func expectError(t *testing.T, sig []api.Decl, metas []api.Meta, n int, x api.Term, want api.Errno) {
	t.Helper()
	text, err := textOf(sig, metas, n, x)
	expectText(t, "Text", text, err, "", want)
	r, err := rawOf(sig, metas, n, x)
	if err != want || !syntax.Same(r, api.Raw{}) {
		t.Errorf("Raw = %v, %d; want error %d", r, err, want)
	}
}

// written returns a term without the arguments that are left out.
func written(sig []api.Decl, t api.Term) api.Term {
	if t.Head == api.HCon {
		t.Args = t.Args[sig[t.N].Implicit:]
	}
	var args []api.Term
	for _, arg := range t.Args {
		args = append(args, written(sig, arg))
	}
	t.Args = args
	return t
}

// A reading is what names mean. Those of variables in scope come last, the innermost one at the end.
type reading struct {
	constants, metas, variables []string
}

func (r reading) below(name string) reading {
	r.variables = append(slices.Clip(r.variables), name)
	return r
}

// term returns the term that a raw expression is of, without the arguments that are left out.
func (r reading) term(t *testing.T, x api.Raw) api.Term {
	switch x.Op {
	case api.RType:
		return typ()
	case api.RName:
		return r.head(t, x.Name)
	case api.RApp:
		f := r.term(t, x.Args[0])
		f.Args = append(f.Args, r.term(t, x.Args[1]))
		return f
	case api.RArrow:
		arrow, err := term.Arrow(r.term(t, x.Args[0]), r.term(t, x.Args[1]))
		expect(t, "Arrow", err, api.OK)
		return arrow
	case api.RPi:
		return pi(r.term(t, x.Args[0]), r.below(x.Name).term(t, x.Args[1]))
	case api.RLam:
		if x.Args[0].Op != api.RHole {
			t.Errorf("an RLam has the domain %v", x.Args[0])
		}
		return lam(r.below(x.Name).term(t, x.Args[1]))
	}
	t.Errorf("%v is no raw expression of a term", x)
	return typ()
}

func (r reading) head(t *testing.T, name string) api.Term {
	if n := slices.Index(r.variables, name); n >= 0 {
		return v(len(r.variables) - 1 - n)
	}
	if n := slices.Index(r.constants, name); n >= 0 {
		return c(n)
	}
	if n := slices.Index(r.metas, name); n >= 0 {
		return m(n)
	}
	t.Errorf("nothing is called %s", name)
	return typ()
}
