package unify_test

import (
	"slices"
	"testing"

	"truss/api"
	"truss/maker"
	"truss/meta"
	"truss/subst"
	"truss/term"
	"truss/unify"
)

// A puzzle is equations that have a solution: parts of objects are hidden behind metavariables, whose values are known.
// All types are simple: none of them contains an object.
type puzzle struct {
	*maker.Maker
	metas  []api.Meta
	values []api.Term
	list   []api.Equation
	// patterns: all metavariables are in patterns.
	patterns bool
}

// newPuzzle makes a puzzle of at most so many equations.
func newPuzzle(made *maker.Maker, most int, patterns bool) *puzzle {
	p := &puzzle{Maker: made, patterns: patterns}
	for range 1 + p.Below(most) {
		ctx := p.context()
		a := p.class()
		x := p.object(ctx, a, 4)
		p.list = append(p.list, api.Equation{Ctx: ctx, A: p.hidden(ctx, x, a), B: p.hidden(ctx, x, a), Class: a})
	}
	return p
}

func (p *puzzle) class() api.Term {
	types := []api.Term{c(nat), c(tm), arrows(1), to(c(tm), c(tm)), to(to(c(tm), c(tm)), c(nat), c(tm)), to(c(tm), c(nat))}
	return types[p.Below(len(types))]
}

func (p *puzzle) context() []api.Term {
	var ctx []api.Term
	for range p.Below(5) {
		ctx = append(ctx, p.class())
	}
	return ctx
}

func typeIn(ctx []api.Term, n int) api.Term { return ctx[len(ctx)-1-n] }

func long(a api.Term, n int) api.Term {
	simple, _ := term.Simple(a)
	x, _ := subst.Long(api.HVar, n, simple)
	return x
}

// object makes an object of a simple type.
func (p *puzzle) object(ctx []api.Term, a api.Term, depth int) api.Term {
	if a.Op == api.TPi {
		return lam(p.object(append(slices.Clip(ctx), a.Args[0]), a.Args[1], depth))
	}
	if depth == 0 {
		return leaf(a)
	}
	heads := []api.Term{c(z), c(s), c(lambda), c(apply)}
	for n := range ctx {
		heads = append(heads, v(n), v(n))
	}
	for {
		head := heads[p.Below(len(heads))]
		domains, result, _ := term.Split(p.classOf(ctx, head))
		if !term.Same(result, a) {
			continue
		}
		for _, domain := range domains {
			head.Args = append(head.Args, p.object(ctx, domain, depth-1))
		}
		return head
	}
}

// leaf returns a small object of a family.
func leaf(a api.Term) api.Term {
	if a.N == nat {
		return c(z)
	}
	return c(lambda, lam(v(0)))
}

func (p *puzzle) classOf(ctx []api.Term, head api.Term) api.Term {
	if head.Head == api.HVar {
		return typeIn(ctx, head.N)
	}
	return p.Sig[head.N].Class
}

// hidden returns an object with some parts of it hidden.
func (p *puzzle) hidden(ctx []api.Term, x, a api.Term) api.Term {
	if a.Op == api.TPi {
		return lam(p.hidden(append(slices.Clip(ctx), a.Args[0]), x.Args[0], a.Args[1]))
	}
	if p.Below(3) == 0 {
		if y, ok := p.known(ctx, x, a); ok {
			return y
		}
		return p.behind(ctx, x, a)
	}
	class := p.classOf(ctx, x)
	result := api.Term{Op: api.TApp, Head: x.Head, N: x.N}
	for _, arg := range x.Args {
		result.Args = append(result.Args, p.hidden(ctx, arg, class.Args[0]))
		class = class.Args[1]
	}
	return result
}

// behind returns a new metavariable with arguments that hides an object.
func (p *puzzle) behind(ctx []api.Term, x, a api.Term) api.Term {
	result := m(len(p.metas))
	var types []api.Term
	var places []int
	for _, n := range p.variables(ctx, x) {
		types = append(types, typeIn(ctx, n))
		result.Args = append(result.Args, long(typeIn(ctx, n), n))
		places = append(places, n)
	}
	for !p.patterns && p.Below(3) == 0 {
		b := p.class()
		types = append(types, b)
		result.Args = append(result.Args, p.object(ctx, b, 2))
		places = append(places, -1)
	}
	p.metas = append(p.metas, hole(to(append(types, a)...)))
	p.values = append(p.values, lams(len(places), replaced(x, places, 0)))
	return result
}

// variables returns the variables of an object and some other ones, in any order.
func (p *puzzle) variables(ctx []api.Term, x api.Term) []int {
	list, _ := term.Free(x)
	for n := range ctx {
		if !slices.Contains(list, n) && p.Below(2) == 0 {
			list = append(list, n)
		}
	}
	for i := range list {
		j := p.Below(i + 1)
		list[i], list[j] = list[j], list[i]
	}
	return list
}

// replaced returns an object below TLams for places: those with a number are for the variable of this number.
func replaced(x api.Term, places []int, binders int) api.Term {
	result := api.Term{Op: x.Op, Head: x.Head, N: x.N}
	if x.Head == api.HVar && x.N >= binders {
		result.N = binders + len(places) - 1 - slices.Index(places, x.N-binders)
	}
	for _, arg := range x.Args {
		within := binders
		if x.Op == api.TLam {
			within++
		}
		result.Args = append(result.Args, replaced(arg, places, within))
	}
	return result
}

// known returns a metavariable that is there already with other arguments that hides an object, if it finds one.
func (p *puzzle) known(ctx []api.Term, x, a api.Term) (api.Term, bool) {
	for range 12 {
		if len(p.metas) == 0 {
			break
		}
		y := m(p.Below(len(p.metas)))
		class := p.metas[y.N].Class
		for class.Op == api.TPi {
			arg, ok := p.argument(ctx, class.Args[0])
			if !ok {
				break
			}
			y.Args = append(y.Args, arg)
			class = class.Args[1]
		}
		shown, err := meta.Resolve(p.solution(), y)
		if _, ok := meta.Pattern(y); term.Same(class, a) && err == api.OK && term.Same(shown, x) && (ok || !p.patterns) {
			return y, true
		}
	}
	return api.Term{}, false
}

// argument returns a variable of a type, or any object of it.
func (p *puzzle) argument(ctx []api.Term, a api.Term) (api.Term, bool) {
	for range 5 {
		if n := p.Below(len(ctx) + 1); n < len(ctx) && term.Same(typeIn(ctx, n), a) {
			return long(a, n), true
		}
	}
	if p.patterns {
		return api.Term{}, false
	}
	return p.object(ctx, a, 2), true
}

// solution returns the metavariables with their values.
func (p *puzzle) solution() []api.Meta {
	metas := slices.Clone(p.metas)
	for n, value := range p.values {
		metas[n].Solved, metas[n].Value = true, value
	}
	return metas
}

// shuffled returns the equations in another order, some of them with the sides exchanged.
func (p *puzzle) shuffled() []api.Equation {
	list := slices.Clone(p.list)
	for i := range list {
		j := p.Below(i + 1)
		list[i], list[j] = list[j], list[i]
	}
	for i, q := range list {
		if p.Below(2) == 0 {
			list[i].A, list[i].B = q.B, q.A
		}
	}
	return list
}

// object returns the object of a metavariable without a context.
func object(metas []api.Meta, n int) api.Term {
	domains, _, _ := term.Split(metas[n].Class)
	x := m(n)
	for i, domain := range domains {
		x.Args = append(x.Args, long(domain, len(domains)-1-i))
	}
	return lams(len(domains), x)
}

// checkTrue checks that a puzzle has a solution, and that it can be found in what Unify has come to.
func (p *puzzle) checkTrue(t *testing.T, after api.Problem) {
	t.Helper()
	list := slices.Clone(after.Left)
	for n, value := range p.values {
		list = append(list, api.Equation{A: object(p.metas, n), B: value, Class: p.metas[n].Class})
	}
	if len(list) > api.MaxLeft {
		return
	}
	found, err := unify.Unify(p.Sig, after.Metas, list)
	if err != api.OK || len(found.Left) > 0 {
		t.Errorf("the solution %v of %v is none of %v: error %d, %v", p.values, p.list, after, err, found.Left)
		return
	}
	expectSolved(t, p.Sig, found.Metas, p.list)
	for n, value := range p.values {
		if !term.Same(found.Metas[n].Value, value) {
			t.Errorf("a value is %v, want %v", found.Metas[n].Value, value)
		}
	}
}

func expectSolved(t *testing.T, sig []api.Decl, metas []api.Meta, l []api.Equation) {
	t.Helper()
	if same, err := unify.Solves(sig, metas, l); !same || err != api.OK {
		t.Errorf("%v does not solve %v: error %d", metas, l, err)
	}
}
