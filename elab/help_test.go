package elab_test

import (
	"slices"
	"strings"
	"testing"

	"truss/api"
	"truss/build"
	"truss/check"
	"truss/elab"
	"truss/print"
	"truss/syntax"
	"truss/term"
)

var (
	typ    = build.Type
	pi     = build.Pi
	to     = build.To
	lam    = build.Lam
	lams   = build.Lams
	v      = build.Var
	c      = build.Con
	m      = build.Meta
	decl   = build.Decl
	hole   = build.Hole
	named  = build.Named
	solved = build.Solved
	copies = build.Copies
	whole  = build.Whole
	nats   = build.Nats
	arrows = build.Arrows
	terms  = build.Terms
)

const (
	nat    = build.Nat
	z      = build.Z
	s      = build.S
	plus   = build.Plus
	pz     = build.Pz
	ps     = build.Ps
	vec    = build.Vec
	empty  = build.Empty
	cons   = build.Cons
	tm     = build.Tm
	lambda = build.Lambda
	apply  = build.Apply
	step   = build.Step
)

// raw returns the raw expression of a text.
func raw(t *testing.T, text string) api.Raw {
	t.Helper()
	r, at, err := syntax.Expr(text)
	if err != api.OK {
		t.Fatalf("%q: error %d at %d", text, err, at)
	}
	return r
}

// malformed returns raw expressions that are not well formed.
func malformed() []api.Raw {
	name := api.Raw{Op: api.RName, Name: "nat"}
	deep := name
	for range 100000 {
		deep = api.Raw{Op: api.RApp, Args: []api.Raw{deep, name}}
	}
	return []api.Raw{
		{}, {Op: 8}, {Op: api.RName}, {Op: api.RName, Name: "type"}, {Op: api.RName, Name: "_x"}, {Op: api.RType, Name: "a"},
		{Op: api.RApp, Args: []api.Raw{name}}, {Op: api.RPi, Args: []api.Raw{name, name}}, {Op: api.RArrow, Args: []api.Raw{name, {}}}, deep,
	}
}

// unformed returns signatures that are not formed.
func unformed() [][]api.Decl {
	return [][]api.Decl{
		append(whole(), decl("s", c(nat))), append(whole(), decl("k", c(99))), append(whole(), decl("K", c(nat))), build.Flat(api.MaxDecls + 1),
		{decl("a", m(0))}, {build.Implicit(1, decl("a", typ()))},
	}
}

func expect(t *testing.T, name string, got, want api.Errno) {
	t.Helper()
	if got != want {
		t.Errorf("%s: error %d, want %d", name, got, want)
	}
}

func expectTerm(t *testing.T, name string, got api.Term, err api.Errno, want api.Term, wantErr api.Errno) {
	t.Helper()
	if err != wantErr || !term.Same(got, want) {
		t.Errorf("%s = %v, %d; want %v, %d", name, got, err, want, wantErr)
	}
}

// shown returns the text of a closed term, with all arguments.
func shown(sig []api.Decl, x api.Term) string {
	explicit := slices.Clone(sig)
	for n := range explicit {
		explicit[n].Implicit = 0
	}
	text, _ := print.Text(explicit, nil, 0, x)
	return text
}

// expectClass checks the text of a class, with all arguments, and the number of those that are implicit.
func expectClass(t *testing.T, sig []api.Decl, text, want string, implicit int) {
	t.Helper()
	got, n, err := elab.Class(sig, raw(t, text))
	if err != api.OK || n != implicit || shown(sig, got) != want {
		t.Errorf("Class of %q = %q, %d, %d; want %q, %d", text, shown(sig, got), n, err, want, implicit)
	}
	if err == api.OK && check.Type(sig, nil, nil, got) != api.OK && check.Kind(sig, nil, nil, got) != api.OK {
		t.Errorf("Class of %q = %q is no type and no kind", text, shown(sig, got))
	}
}

// expectErrors checks that texts have no class, but this error.
func expectErrors(t *testing.T, sig []api.Decl, want api.Errno, texts ...string) {
	t.Helper()
	for _, text := range texts {
		got, n, err := elab.Class(sig, raw(t, text))
		if err != want || n != 0 || !term.Same(got, api.Term{}) {
			t.Errorf("Class of %q = %q, %d, %d; want error %d", text, shown(sig, got), n, err, want)
		}
	}
}

// declared returns a signature with the declarations of lines.
func declared(t *testing.T, sig []api.Decl, lines string) []api.Decl {
	t.Helper()
	items, at, err := syntax.Items(lines)
	if err != api.OK {
		t.Fatalf("%q: error %d at %d", lines, err, at)
	}
	for _, item := range items {
		longer, err := elab.Declare(sig, item.Name, item.Raw)
		if err != api.OK {
			t.Fatalf("Declare of %s: error %d", item.Name, err)
		}
		sig = longer
	}
	return sig
}

// repeated returns so many copies of a text, one after the other.
func repeated(count int, text string) string { return strings.Repeat(text, count) }
