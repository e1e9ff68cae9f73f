// Package build makes terms and declarations in short, for the tests of all layers.
package build

import (
	"slices"
	"strconv"

	"truss/api"
)

// Type returns the TType.
func Type() api.Term { return api.Term{Op: api.TType} }

// Pi returns a TPi.
func Pi(domain, body api.Term) api.Term {
	return api.Term{Op: api.TPi, Args: []api.Term{domain, body}}
}

// To returns the TPis of these domains around the last one of the terms (which are not shifted).
func To(terms ...api.Term) api.Term {
	last := len(terms) - 1
	t := terms[last]
	for _, domain := range slices.Backward(terms[:last]) {
		t = Pi(domain, t)
	}
	return t
}

// Lam returns a TLam.
func Lam(body api.Term) api.Term { return api.Term{Op: api.TLam, Args: []api.Term{body}} }

// Lams returns so many TLams around a body.
func Lams(count int, body api.Term) api.Term {
	for range count {
		body = Lam(body)
	}
	return body
}

// App returns a TApp.
func App(head, n int, spine ...api.Term) api.Term {
	return api.Term{Op: api.TApp, Head: head, N: n, Args: spine}
}

// Var returns a TApp whose head is a variable.
func Var(n int, spine ...api.Term) api.Term { return App(api.HVar, n, spine...) }

// Con returns a TApp whose head is a constant.
func Con(n int, spine ...api.Term) api.Term { return App(api.HCon, n, spine...) }

// Meta returns a TApp whose head is a metavariable.
func Meta(n int, spine ...api.Term) api.Term { return App(api.HMeta, n, spine...) }

// Copies returns a list of so many equal terms (which share their Args).
func Copies(count int, t api.Term) []api.Term { return slices.Repeat([]api.Term{t}, count) }

// Doubled returns a term of 2^levels leaves, whose nodes share their Args.
func Doubled(levels int) api.Term {
	t := Con(0)
	for range levels {
		t = Con(0, t, t)
	}
	return t
}

// Endless returns a TPi or TLam whose body is itself.
func Endless(op int) api.Term {
	args := []api.Term{{}}
	if op == api.TPi {
		args = []api.Term{Con(0), {}}
	}
	t := api.Term{Op: op, Args: args}
	args[len(args)-1] = t
	return t
}

// Improper returns terms that are not proper.
func Improper() []api.Term {
	return []api.Term{
		{}, {Op: api.TLam}, {Op: 5}, Var(-1), Con(api.MaxN + 1), App(4, 0), Lam(Lam(Meta(-1))),
		Con(0, Copies(api.MaxNodes, Con(1))...), Lams(api.MaxDepth, Con(0)), Lams(100000, Con(0)), Doubled(60), Endless(api.TPi), Endless(api.TLam),
	}
}

// Decl returns a constant without implicit arguments.
func Decl(name string, class api.Term) api.Decl { return api.Decl{Name: name, Class: class} }

// Implicit returns a constant with so many implicit arguments.
func Implicit(n int, d api.Decl) api.Decl {
	d.Implicit = n
	return d
}

// Unformed returns signatures that are not formed.
func Unformed() [][]api.Decl {
	list := [][]api.Decl{
		append(Numbers(), Decl("s", Con(Nat))), append(Numbers(), Decl("k", Con(99))), append(Numbers(), Decl("K", Con(Nat))),
		Flat(api.MaxDecls + 1), make([]api.Decl, 100000), {Decl("a", Meta(0))}, {Decl("a", Con(0))}, {Implicit(1, Decl("a", Type()))}, {{}},
	}
	for _, class := range Improper() {
		list = append(list, []api.Decl{Decl("a", class)}, []api.Decl{Decl("a", Type()), Decl("b", Pi(class, Con(0)))})
	}
	return list
}

// Hole returns a metavariable without a name that is not solved.
func Hole(class api.Term) api.Meta { return api.Meta{Class: class} }

// Named returns a metavariable that is not solved.
func Named(name string, class api.Term) api.Meta { return api.Meta{Name: name, Class: class} }

// Solved returns a metavariable without a name that is solved.
func Solved(class, value api.Term) api.Meta {
	return api.Meta{Class: class, Solved: true, Value: value}
}

// Classes returns the classes of a signature.
func Classes(sig []api.Decl) []api.Term {
	var list []api.Term
	for _, d := range sig {
		list = append(list, d.Class)
	}
	return list
}

// Parts returns the Classes and Values of metavariables.
func Parts(metas []api.Meta) []api.Term {
	var list []api.Term
	for _, m := range metas {
		list = append(list, m.Class, m.Value)
	}
	return list
}

// isSame reports whether two terms are equal. (Package term cannot be used: its tests use this one.)
func isSame(a, b api.Term) bool {
	return a.Op == b.Op && a.Head == b.Head && a.N == b.N && slices.EqualFunc(a.Args, b.Args, isSame)
}

// SameMetas reports whether two lists of metavariables are the same.
func SameMetas(a, b []api.Meta) bool {
	return slices.EqualFunc(a, b, func(a, b api.Meta) bool {
		return a.Name == b.Name && a.Solved == b.Solved && isSame(a.Class, b.Class) && isSame(a.Value, b.Value)
	})
}

// SameProblem reports whether two problems are the same.
func SameProblem(a, b api.Problem) bool {
	return SameMetas(a.Metas, b.Metas) && slices.EqualFunc(a.Left, b.Left, func(a, b api.Equation) bool {
		return slices.EqualFunc(a.Ctx, b.Ctx, isSame) && isSame(a.A, b.A) && isSame(a.B, b.B) && isSame(a.Class, b.Class)
	})
}

// Terms returns all terms of a problem.
func Terms(p api.Problem) []api.Term {
	all := Parts(p.Metas)
	for _, q := range p.Left {
		all = append(all, q.Ctx...)
		all = append(all, q.A, q.B, q.Class)
	}
	return all
}

// Apart reports whether no two places in results share memory, and none shares memory with arguments. It marks the results.
func Apart(arguments, results []api.Term) bool {
	marks := 0
	mark := func(node *api.Term) {
		marks--
		node.N = marks
	}
	apart := true
	for _, x := range results {
		visit(x, mark)
	}
	marks = 0
	for _, x := range results {
		visit(x, func(node *api.Term) {
			marks--
			apart = apart && node.N == marks
		})
	}
	for _, x := range arguments {
		visit(x, func(node *api.Term) { apart = apart && node.N >= 0 })
	}
	return apart
}

// visit calls do for the places of all nodes below the outermost one.
func visit(t api.Term, do func(node *api.Term)) {
	for i := range t.Args {
		do(&t.Args[i])
		visit(t.Args[i], do)
	}
}

// Flat returns a valid signature of so many constants: a family, and objects of it.
func Flat(count int) []api.Decl {
	sig := []api.Decl{Decl("a", Type())}
	for len(sig) < count {
		sig = append(sig, Decl("x"+strconv.Itoa(len(sig)), Con(0)))
	}
	return sig
}

// The constants of Whole. (The first ones are those of Numbers.)
const (
	Nat = iota
	Z
	S
	Plus
	Pz
	Ps
	Vec
	Empty
	Cons
	Tm
	Lambda
	Apply
	Step
	Beta
	Each
)

// Nats returns so many types nat of Whole.
func Nats(count int) []api.Term { return Copies(count, Con(Nat)) }

// Arrows returns the type of the functions from so many numbers of Whole to one.
func Arrows(count int) api.Term { return To(append(Nats(count), Con(Nat))...) }

// Numbers returns the signature of example 1 of DOC.md: nat, z, s, plus, pz and ps.
func Numbers() []api.Decl {
	nat, z := Con(Nat), Con(Z)
	s := func(n api.Term) api.Term { return Con(S, n) }
	premise := Con(Plus, Var(2), Var(1), Var(0))
	return []api.Decl{
		Decl("nat", Type()),
		Decl("z", nat),
		Decl("s", To(nat, nat)),
		Decl("plus", To(nat, nat, nat, Type())),
		Implicit(1, Decl("pz", Pi(nat, Con(Plus, z, Var(0), Var(0))))),
		Implicit(3, Decl("ps", To(nat, nat, nat, premise, Con(Plus, s(Var(3)), Var(2), s(Var(1)))))),
	}
}

// Whole returns a valid signature: the examples 1 and 2 of DOC.md, with vectors, and with an argument that is a rule.
func Whole() []api.Decl {
	n, t := Con(Nat), Con(Tm)
	fun := To(t, t)
	return append(Numbers(),
		Decl("vec", To(n, Type())),
		Decl("empty", Con(Vec, Con(Z))),
		Implicit(1, Decl("cons", To(n, n, Con(Vec, Var(1)), Con(Vec, Con(S, Var(2)))))),
		Decl("tm", Type()),
		Decl("lam", To(fun, t)),
		Decl("app", To(t, t, t)),
		Decl("step", To(t, t, Type())),
		Implicit(2, Decl("beta", To(fun, t, Con(Step, Con(Apply, Con(Lambda, Lam(Var(2, Var(0)))), Var(0)), Var(1, Var(0)))))),
		Decl("each", To(To(n, n), To(n, Con(Plus, Var(0), Var(1, Var(0)), Var(1, Var(0)))), Con(Vec, Var(1, Con(Z))))),
	)
}
