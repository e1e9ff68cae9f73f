package check_test

import (
	"testing"

	"truss/api"
	"truss/check"
	"truss/maker"
	"truss/sign"
	"truss/subst"
	"truss/term"
)

// A typing is an object that a maker has made, with its type, in a context.
type typing struct {
	ctx       []api.Term
	object, a api.Term
}

// typings calls do for so many different makes; it checks that there are TLams, variables and constants among them.
func typings(t *testing.T, count int, do func(made *maker.Maker, x typing)) {
	t.Helper()
	made := maker.New(some())
	seen := map[string]int{}
	for range count {
		x := typing{ctx: made.Context(5)}
		ok := false
		if made.Below(3) == 0 {
			x.a, ok = made.Class(x.ctx, 3)
			if ok {
				x.object, ok = made.Object(x.ctx, x.a, 4)
			}
		} else {
			x.object, x.a, ok = made.Head(x.ctx, 4)
		}
		if !ok {
			continue
		}
		seen[[]string{"TLam", "variable", "constant", "metavariable"}[x.object.Head]]++
		do(made, x)
	}
	for _, kind := range []string{"TLam", "variable", "constant", "metavariable"} {
		if seen[kind] < 25 {
			t.Errorf("only %d objects are of the kind %s", seen[kind], kind)
		}
	}
}

// P6.1, and P6.3: what is made is typed; its type is a type, and the only one

func TestMadeTermsAreTyped(t *testing.T) {
	typings(t, 4000, func(made *maker.Maker, x typing) {
		expect(t, "Context", check.Context(made.Sig, made.Metas, x.ctx), api.OK)
		expect(t, "Type", check.Type(made.Sig, made.Metas, x.ctx, x.a), api.OK)
		expect(t, "Object", check.Object(made.Sig, made.Metas, x.ctx, x.object, x.a), api.OK)
		found, err := check.Infer(made.Sig, made.Metas, x.ctx, x.object)
		if x.object.Op == api.TApp {
			expectTerm(t, "Infer", found, err, x.a, api.OK)
		}
		if other, ok := made.Class(x.ctx, 3); ok && other.Op == api.TApp && x.a.Op == api.TApp && !term.Same(other, x.a) {
			expect(t, "Object", check.Object(made.Sig, made.Metas, x.ctx, x.object, other), api.ErrType)
		}
	})
}

// P6.1: the same errors as the oracle

func TestAgainstOracle(t *testing.T) {
	errors := map[api.Errno]int{}
	compare := func(name string, got, want api.Errno, x typing) {
		if errors[want]++; got != want {
			t.Errorf("%s of %v, %v in %v: error %d, the oracle's is %d", name, x.object, x.a, x.ctx, got, want)
		}
	}
	typings(t, 4000, func(made *maker.Maker, x typing) {
		o := oracle{sig: made.Sig, metas: made.Metas}
		inner := o.in(x.ctx)
		for range 4 {
			object, a, ctx := made.Spoiled(x.object), made.Spoiled(x.a), x.ctx
			compare("Object", check.Object(made.Sig, made.Metas, ctx, object, x.a), inner.checkObject(object, evaluate(x.a, inner.env)), typing{ctx, object, x.a})
			compare("Type", check.Type(made.Sig, made.Metas, ctx, a), inner.checkClass(a, api.TApp), typing{ctx, object, a})
			compare("Kind", check.Kind(made.Sig, made.Metas, ctx, a), inner.checkClass(a, api.TType), typing{ctx, object, a})
			if object.Op == api.TApp {
				found, err := inner.typeOf(object)
				got, gotErr := check.Infer(made.Sig, made.Metas, ctx, object)
				compare("Infer", gotErr, err, typing{ctx, object, x.a})
				if err == api.OK && !term.Same(got, readBack(found, len(ctx))) {
					t.Errorf("Infer of %v in %v = %v", object, ctx, got)
				}
			}
			if len(ctx) > 0 {
				at := made.Below(len(ctx))
				spoiled := append([]api.Term{}, ctx...)
				spoiled[at] = made.Spoiled(ctx[at])
				compare("Context", check.Context(made.Sig, made.Metas, spoiled), o.context(spoiled), typing{ctx: spoiled})
			}
		}
	})
	for _, err := range []api.Errno{api.OK, api.ErrLevel, api.ErrShape, api.ErrType, api.ErrScope} {
		if errors[err] < 200 {
			t.Errorf("only %d times error %d", errors[err], err)
		}
	}
}

// P6.4: an object is put for a variable

func TestSubstitution(t *testing.T) {
	count := 0
	typings(t, 8000, func(made *maker.Maker, x typing) {
		if len(x.ctx) == 0 {
			return
		}
		// The variable n has the type at the position at.
		at := made.Below(len(x.ctx))
		n := len(x.ctx) - 1 - at
		s, ok := made.Object(x.ctx[:at], x.ctx[at], 3)
		if !ok {
			return
		}
		simple, _ := term.Simple(x.ctx[at])
		failed := false
		put := func(y api.Term, n int) api.Term {
			result, err := subst.Subst(y, n, s, simple)
			failed = failed || err != api.OK
			return result
		}
		ctx := append([]api.Term{}, x.ctx[:at]...)
		for i, a := range x.ctx[at+1:] {
			ctx = append(ctx, put(a, i))
		}
		object, a := put(x.object, n), put(x.a, n)
		if failed {
			t.Fatalf("%v cannot be put for %d in %v", s, n, x)
		}
		count++
		expect(t, "Context", check.Context(made.Sig, made.Metas, ctx), api.OK)
		expect(t, "Object", check.Object(made.Sig, made.Metas, ctx, object, a), api.OK)
		if object.Op == api.TApp {
			found, err := check.Infer(made.Sig, made.Metas, ctx, object)
			expectTerm(t, "Infer", found, err, a, api.OK)
		}
	})
	if count < 500 {
		t.Errorf("only %d substitutions", count)
	}
}

// P6.5: a longer context, and a longer signature

func TestWeakening(t *testing.T) {
	typings(t, 4000, func(made *maker.Maker, x typing) {
		at := made.Below(len(x.ctx) + 1)
		extra, ok := made.Class(x.ctx[:at], 2)
		if !ok {
			return
		}
		shift := func(y api.Term, from int) api.Term {
			result, err := term.Shift(y, 1, from)
			expect(t, "Shift", err, api.OK)
			return result
		}
		ctx := append(append([]api.Term{}, x.ctx[:at]...), extra)
		for i, a := range x.ctx[at:] {
			ctx = append(ctx, shift(a, i))
		}
		n := len(x.ctx) - at
		object, a := shift(x.object, n), shift(x.a, n)
		sig, err := check.Declare(made.Sig, decl("more", to(c(nat), typ())))
		expect(t, "Declare", err, api.OK)
		for _, longer := range [][]api.Decl{made.Sig, sig} {
			expect(t, "Context", check.Context(longer, made.Metas, ctx), api.OK)
			expect(t, "Type", check.Type(longer, made.Metas, ctx, a), api.OK)
			expect(t, "Object", check.Object(longer, made.Metas, ctx, object, a), api.OK)
		}
	})
}

// P6.6: constants are exchanged

func TestSwapIsValid(t *testing.T) {
	swaps := 0
	sig := whole()
	for round := range 3 {
		for n := range sig {
			swapped, err := sign.Swap(sig, n)
			if err != api.OK {
				continue
			}
			if at, err := check.Signature(swapped); at != len(sig) || err != api.OK {
				t.Errorf("after Swap(%d): error %d at %d", n, err, at)
			}
			swaps++
			// The next ones are of what is exchanged already.
			if (n+round)%2 == 0 {
				sig = swapped
			}
		}
	}
	if swaps < 10 {
		t.Errorf("only %d constants could be exchanged", swaps)
	}
}
