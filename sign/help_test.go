package sign_test

import (
	"slices"
	"strings"
	"testing"

	"truss/api"
	"truss/build"
	"truss/sign"
	"truss/term"
)

var (
	typ      = build.Type
	pi       = build.Pi
	to       = build.To
	lam      = build.Lam
	v        = build.Var
	c        = build.Con
	meta     = build.Meta
	decl     = build.Decl
	implicit = build.Implicit
	many     = build.Flat
	numbers  = build.Numbers
)

// The constants of numbers.
const (
	nat = iota
	z
	s
	plus
	pz
	ps
)

// steps returns the signature of example 2 of DOC.md.
func steps() []api.Decl {
	const tm, lambda, apply, step = 0, 1, 2, 3
	fun := to(c(tm), c(tm))
	return []api.Decl{
		decl("tm", typ()),
		decl("lam", to(fun, c(tm))),
		decl("app", to(c(tm), c(tm), c(tm))),
		decl("step", to(c(tm), c(tm), typ())),
		implicit(2, decl("beta", to(fun, c(tm), c(step, c(apply, c(lambda, lam(v(2, v(0)))), v(0)), v(1, v(0)))))),
	}
}

// broad returns a type over the family 0 with as many nodes as nodes says.
func broad(nodes int) api.Term { return c(0, build.Copies(nodes-1, typ())...) }

// tower returns a type over the family 0 that is nested as deep as depth says, within TPis.
func tower(depth int) api.Term {
	t := c(0)
	for range depth - 1 {
		t = pi(typ(), t)
	}
	return t
}

// classes returns classes that a constant after numbers may have.
func classes() map[string]api.Term {
	return map[string]api.Term{
		"kind":                 typ(),
		"kind with a domain":   pi(c(nat), typ()),
		"domain is a kind":     pi(typ(), c(nat)),
		"domain is an object":  pi(c(z), c(nat)),
		"domain is a function": pi(lam(v(0)), typ()),
		"too few arguments":    c(plus),
		"too many arguments":   c(nat, c(z)),
		"wrong arguments":      c(plus, typ(), lam(c(nat)), pi(c(s), v(0))),
		"last constant":        pi(c(ps), c(nat)),
		"bound variables":      pi(c(nat), pi(c(plus, v(0), v(0), v(0)), c(plus, v(1), v(0), lam(v(2))))),
		"600 nodes":            broad(api.MaxNodes),
		"40 deep":              tower(api.MaxDepth),
	}
}

// wrongClasses returns classes that a constant after numbers must not have.
func wrongClasses() map[string]api.Term {
	next := len(numbers())
	return map[string]api.Term{
		"nothing":               {},
		"an Op that is none":    {Op: 5},
		"not proper":            pi(c(nat), api.Term{Op: api.TType, N: 1}),
		"not proper, domain":    pi(c(-1), c(nat)),
		"601 nodes":             broad(api.MaxNodes + 1),
		"41 deep":               tower(api.MaxDepth + 1),
		"far too deep":          tower(100000),
		"2^60 leaves":           build.Doubled(60),
		"contains itself":       build.Endless(api.TPi),
		"contains itself, TLam": build.Endless(api.TLam),
		"TLam":                  lam(c(nat)),
		"TPi around a TLam":     pi(c(nat), lam(c(nat))),
		"an object":             c(z),
		"TPi around an object":  pi(c(nat), c(s, v(0))),
		"variable as the head":  pi(c(nat), v(0)),
		"metavariable":          meta(0),
		"metavariable's TPi":    pi(c(nat), meta(0, v(0))),
		"metavariable, domain":  pi(meta(0), c(nat)),
		"metavariable, spine":   c(plus, c(z), lam(meta(3)), c(z)),
		"free variable":         v(0),
		"free variable, domain": pi(v(0), c(nat)),
		"free variable, spine":  pi(c(nat), c(plus, v(0), v(1), v(0))),
		"free in a TLam":        pi(c(nat), c(plus, lam(v(1)), lam(v(2)), v(0))),
		"free in a TPi":         pi(pi(v(0), v(0)), c(nat)),
		"itself":                c(next),
		"itself, domain":        pi(c(next), typ()),
		"itself, spine":         c(plus, c(next), c(z), c(z)),
		"unknown constant":      c(api.MaxN),
		"unknown, domain":       pi(c(next+1), c(nat)),
		"unknown, deep":         pi(c(nat), c(plus, lam(c(s, c(next+1))), v(0), v(0))),
	}
}

// wrongNames returns names that a constant must not have.
func wrongNames() []string {
	return []string{"", "type", "Nat", "_", "_a", "'a", "1a", "a b", "a-b", "a.", "%a", "\xff", "é", "a\x00", strings.Repeat("a", api.MaxName+1), strings.Repeat("a", 1000000)}
}

// unformed returns signatures that are not formed.
func unformed() map[string][]api.Decl {
	list := map[string][]api.Decl{
		"too many":         many(api.MaxDecls + 1),
		"far too many":     make([]api.Decl, 1000000),
		"twice":            append(numbers(), decl("s", c(nat))),
		"twice, next":      append(numbers(), decl("ps", c(nat))),
		"family twice":     append(numbers(), decl("nat", typ())),
		"Implicit -1":      append(numbers(), implicit(-1, decl("k", c(nat)))),
		"Implicit 1 of 0":  append(numbers(), implicit(1, decl("k", c(nat)))),
		"Implicit 3 of 2":  append(numbers(), implicit(3, decl("k", to(c(nat), c(nat), typ())))),
		"Implicit, domain": append(numbers(), implicit(2, decl("k", pi(to(c(nat), c(nat)), c(nat))))),
		"only an object":   {decl("z", c(0))},
		"order":            {decl("z", c(1)), decl("nat", typ())},
	}
	for name, class := range wrongClasses() {
		list["class: "+name] = append(numbers(), decl("k", class))
		before := numbers()
		before[s].Class = class
		list["class before others: "+name] = before
	}
	for i, name := range wrongNames() {
		wrong := numbers()
		wrong[i%len(wrong)].Name = name
		list["name: "+name[:min(len(name), 20)]] = wrong
	}
	return list
}

func isSame(a, b []api.Decl) bool {
	return slices.EqualFunc(a, b, func(a, b api.Decl) bool {
		return a.Name == b.Name && a.Implicit == b.Implicit && term.Same(a.Class, b.Class)
	})
}

// check checks a signature that a function returns: nothing is expected with an error.
func check(t *testing.T, name string, got []api.Decl, err api.Errno, want []api.Decl, wantErr api.Errno) {
	t.Helper()
	if err != wantErr || sign.Check(got) != api.OK || !isSame(got, want) {
		// Only what is formed can be printed in any case.
		t.Errorf("%s: error %d, want %d", name, err, wantErr)
		if sign.Check(got) == api.OK {
			t.Logf("%v instead of %v", got, want)
		}
	}
}

// checkNew checks that a change of numbers changes no argument, and that its result shares no memory, neither with the
// argument nor in itself.
func checkNew(t *testing.T, change func(sig []api.Decl) ([]api.Decl, api.Errno)) {
	t.Helper()
	room := append(numbers(), many(3)...)
	sig := room[:len(room)-3]
	result, err := change(sig)
	if err != api.OK {
		t.Fatalf("error %d", err)
	}
	if !isSame(room, append(numbers(), many(3)...)) {
		t.Errorf("an argument has changed: %v", room)
	}
	if !build.Apart(build.Classes(sig), build.Classes(result)) {
		t.Errorf("memory is shared in %v", result)
	}
	for i := range result {
		if &result[i] == &room[i] {
			t.Errorf("the list is shared")
		}
	}
}
