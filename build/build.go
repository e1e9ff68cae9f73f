// Package build makes terms and declarations in short, for the tests of all layers.
package build

import (
	"slices"
	"strconv"

	"truss/api"
)

// Type returns the TType.
func Type() api.Term { return api.Term{Op: api.TType} }

// Pi returns a TPi.
func Pi(domain, body api.Term) api.Term {
	return api.Term{Op: api.TPi, Args: []api.Term{domain, body}}
}

// To returns the TPis of these domains around the last one of the terms (which are not shifted).
func To(terms ...api.Term) api.Term {
	last := len(terms) - 1
	t := terms[last]
	for _, domain := range slices.Backward(terms[:last]) {
		t = Pi(domain, t)
	}
	return t
}

// Lam returns a TLam.
func Lam(body api.Term) api.Term { return api.Term{Op: api.TLam, Args: []api.Term{body}} }

// Lams returns so many TLams around a body.
func Lams(count int, body api.Term) api.Term {
	for range count {
		body = Lam(body)
	}
	return body
}

// App returns a TApp.
func App(head, n int, spine ...api.Term) api.Term {
	return api.Term{Op: api.TApp, Head: head, N: n, Args: spine}
}

// Var returns a TApp whose head is a variable.
func Var(n int, spine ...api.Term) api.Term { return App(api.HVar, n, spine...) }

// Con returns a TApp whose head is a constant.
func Con(n int, spine ...api.Term) api.Term { return App(api.HCon, n, spine...) }

// Meta returns a TApp whose head is a metavariable.
func Meta(n int, spine ...api.Term) api.Term { return App(api.HMeta, n, spine...) }

// Copies returns a list of so many equal terms (which share their Args).
func Copies(count int, t api.Term) []api.Term { return slices.Repeat([]api.Term{t}, count) }

// Doubled returns a term of 2^levels leaves, whose nodes share their Args.
func Doubled(levels int) api.Term {
	t := Con(0)
	for range levels {
		t = Con(0, t, t)
	}
	return t
}

// Endless returns a TPi or TLam whose body is itself.
func Endless(op int) api.Term {
	args := []api.Term{{}}
	if op == api.TPi {
		args = []api.Term{Con(0), {}}
	}
	t := api.Term{Op: op, Args: args}
	args[len(args)-1] = t
	return t
}

// Improper returns terms that are not proper.
func Improper() []api.Term {
	return []api.Term{
		{}, {Op: api.TLam}, {Op: 5}, Var(-1), Con(api.MaxN + 1), App(4, 0), Lam(Lam(Meta(-1))),
		Con(0, Copies(api.MaxNodes, Con(1))...), Lams(api.MaxDepth, Con(0)), Lams(100000, Con(0)), Doubled(60), Endless(api.TPi), Endless(api.TLam),
	}
}

// Decl returns a constant without implicit arguments.
func Decl(name string, class api.Term) api.Decl { return api.Decl{Name: name, Class: class} }

// Implicit returns a constant with so many implicit arguments.
func Implicit(n int, d api.Decl) api.Decl {
	d.Implicit = n
	return d
}

// Flat returns a valid signature of so many constants: a family, and objects of it.
func Flat(count int) []api.Decl {
	sig := []api.Decl{Decl("a", Type())}
	for len(sig) < count {
		sig = append(sig, Decl("x"+strconv.Itoa(len(sig)), Con(0)))
	}
	return sig
}

// Numbers returns the signature of example 1 of DOC.md: nat, z, s, plus, pz and ps.
func Numbers() []api.Decl {
	const plus = 3
	nat, z := Con(0), Con(1)
	s := func(n api.Term) api.Term { return Con(2, n) }
	premise := Con(plus, Var(2), Var(1), Var(0))
	return []api.Decl{
		Decl("nat", Type()),
		Decl("z", nat),
		Decl("s", To(nat, nat)),
		Decl("plus", To(nat, nat, nat, Type())),
		Implicit(1, Decl("pz", Pi(nat, Con(plus, z, Var(0), Var(0))))),
		Implicit(3, Decl("ps", To(nat, nat, nat, premise, Con(plus, s(Var(3)), Var(2), s(Var(1)))))),
	}
}
