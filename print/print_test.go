package print_test

import (
	"strconv"
	"testing"

	"truss/api"
	"truss/build"
	"truss/print"
)

var (
	rawOf  = print.Raw
	textOf = print.Text
)

// P7.1: terms

func TestExamples(t *testing.T) {
	n := c(nat)
	expectRaw(t, whole(), nil, 0, pi(n, c(plus, c(z), v(0), v(0))), "{x1:nat} plus z x1 x1")
	beta := c(step, c(apply, c(lambda, lam(v(2, v(0)))), v(0)))
	expectRaw(t, whole(), nil, 2, beta, "step (app (lam ([x3] x1 x3)) x2)")
}

func TestTerms(t *testing.T) {
	n := c(nat)
	for want, x := range map[string]api.Term{
		"type":                           typ(),
		"nat":                            n,
		"s (s z)":                        c(s, c(s, c(z))),
		"plus z (s z) z":                 c(plus, c(z), c(s, c(z)), c(z)),
		"nat -> nat":                     to(n, n),
		"(nat -> type) -> nat":           to(to(n, typ()), n),
		"{x1:nat} {x2:nat} plus z x1 x2": to(n, n, c(plus, c(z), v(1), v(0))),
		"[x1] [x2] x1 x2":                lams(2, v(1, v(0))),
		"lam ([x1] app x1 z)":            c(lambda, lam(c(apply, v(0), c(z)))),
		"{x1:nat -> nat} vec (x1 z)":     pi(to(n, n), c(vec, v(0, c(z)))),
		"{x1:{x1:nat} vec x1} vec x1":    pi(pi(n, c(vec, v(0))), c(vec, v(0))),
		"[x1] {x2:nat} vec (x1 x2)":      lam(pi(n, c(vec, v(1, v(0))))),
		"s ([x1] x1) ([x1] [x2] x1)":     c(s, lam(v(0)), lams(2, v(1))),
		// All terms that are proper are allowed, whatever is well typed.
		"type -> type":   pi(typ(), typ()),
		"z type nat":     c(z, typ(), n),
		"[x1] type":      lam(typ()),
		"{x1:nat} x1":    pi(n, v(0)),
		"z (nat -> nat)": c(z, to(n, n)),
	} {
		expectRaw(t, whole(), nil, 0, x, want)
	}
}

// P7.1: a TPi whose variable does not occur is an arrow, and is not counted

func TestArrows(t *testing.T) {
	n := c(nat)
	for want, x := range map[string]api.Term{
		"nat -> {x3:nat} plus x1 x2 x3":             to(n, n, c(plus, v(3), v(2), v(0))),
		"{x3:nat} nat -> {x4:nat} plus x3 x4 x2":    to(n, n, n, c(plus, v(2), v(0), v(3))),
		"(nat -> {x3:nat} vec x3) -> vec x1":        pi(to(n, n, c(vec, v(0))), c(vec, v(2))),
		"nat -> vec ([x3] x3 x2)":                   pi(n, c(vec, lam(v(0, v(2))))),
		"{x3:nat} vec ([x4] nat -> vec (s x3) x4)":  pi(n, c(vec, lam(pi(n, c(vec, c(s, v(2)), v(1)))))),
		"{x3:vec x2} nat -> nat -> vec x3 x2":       to(c(vec, v(0)), n, n, c(vec, v(2), v(3))),
		"[x3] nat -> [x4] nat -> {x5:nat} x5 x4 x3": lam(pi(n, lam(to(n, n, v(0, v(2), v(4)))))),
	} {
		expectRaw(t, whole(), nil, 2, x, want)
	}
}

// P7.1: implicit arguments are left out

func TestImplicit(t *testing.T) {
	n := c(nat)
	for want, x := range map[string]api.Term{
		"pz":                 c(pz, c(z)),
		"pz x1":              c(pz, c(z), v(0)),
		"ps (ps pz)":         c(ps, c(z), c(z), c(z), c(ps, v(0), v(0), v(0), c(pz, c(z)))),
		"[x2] cons x1 x2":    lam(c(cons, v(0), v(1), v(0))),
		"vec pz":             c(vec, c(pz, typ())),
		"s ps":               c(s, c(ps, lam(v(0)), pi(n, n), typ())),
		"{x2:nat} vec pz":    pi(n, c(vec, c(pz, v(0)))), // it occurs, though it is not written
		"nat -> vec pz":      pi(n, c(vec, c(pz, v(1)))),
		"[x2] nat -> pz x2":  lam(pi(n, c(pz, lam(v(0)), v(1)))),
		"pz ([x2] x2) ps pz": c(pz, n, lam(v(0)), c(ps, n, n, n), c(pz, n)),
	} {
		expectRaw(t, whole(), nil, 1, x, want)
	}
}

// P7.1: names of variables

func TestScope(t *testing.T) {
	for n := 1; n <= api.MaxCtx; n++ {
		for i := range n {
			expectRaw(t, whole(), nil, n, v(i), "x"+strconv.Itoa(n-i))
		}
		expectRaw(t, whole(), nil, n, lam(v(0, v(n))), "[x"+strconv.Itoa(n+1)+"] x"+strconv.Itoa(n+1)+" x1")
		expectError(t, whole(), nil, n, v(n), api.ErrScope)
	}
	deepest := v(0)
	want := "x69"
	for i := range 39 {
		deepest = lam(deepest)
		want = "[x" + strconv.Itoa(69-i) + "] " + want
	}
	expectRaw(t, whole(), nil, api.MaxCtx, deepest, want)
	expectError(t, whole(), nil, -1, c(nat), api.ErrArg)
	expectError(t, whole(), nil, api.MaxCtx+1, c(nat), api.ErrArg)
	expectError(t, whole(), nil, 1<<62, c(nat), api.ErrArg)
}

func TestPrimes(t *testing.T) {
	sig := named("x1", "x2'", "x3", "x3'", "x3'''", "x4'", "x4", "x10", "x")
	expectRaw(t, sig, nil, 0, lams(5, v(4, v(3), v(2), v(1), v(0))), "[x1'] [x2] [x3''] [x4''] [x5] x1' x2 x3'' x4'' x5")
	expectRaw(t, sig, nil, 4, v(3, v(2), v(1), v(0), c(1), c(4)), "x1' x2 x3'' x4'' x1 x3'")
	expectRaw(t, sig, nil, 9, lam(v(0)), "[x10'] x10'")
	expectRaw(t, sig, nil, 2, pi(c(0), c(3, v(0))), "{x3'':a} x3 x3''")
}

// P7.1: names of at most MaxName bytes

func TestLongNames(t *testing.T) {
	// With 14 constants the name has 16 bytes, with 15 it has 17.
	sig := named(primed("x1", 14)...)
	expectRaw(t, sig, nil, 1, v(0), "x1''''''''''''''")
	expectRaw(t, sig, nil, 0, lam(v(0)), "[x1''''''''''''''] x1''''''''''''''")
	sig = named(primed("x1", 15)...)
	expectError(t, sig, nil, 1, v(0), api.ErrFull)
	expectError(t, sig, nil, 0, lam(c(1)), api.ErrFull)
	expectError(t, sig, nil, 0, pi(c(0), v(0)), api.ErrFull)
	expectError(t, sig, nil, 0, c(1, lam(v(0))), api.ErrFull)
	// Only names that are used count.
	expectRaw(t, sig, nil, 2, v(0), "x2")
	expectRaw(t, sig, nil, 1, lam(v(0)), "[x2] x2")
	expectRaw(t, sig, nil, 0, pi(c(0), c(1)), "a -> x1")
	expectRaw(t, append(sig, implicit(1, decl("f", to(c(0), c(0))))), nil, 0, c(16, lam(v(0))), "f")
}

// P7.1: metavariables

func TestMetas(t *testing.T) {
	expectRaw(t, whole(), some(), 0, c(plus, m(0), m(1, m(0)), m(2)), "plus N (M1 N) X1'")
	expectRaw(t, whole(), some(), 1, lam(m(1, v(1), v(0))), "[x2] M1 x1 x2")
	expectError(t, whole(), some(), 1, m(3), api.ErrScope)
	unnamed := make([]api.Meta, api.MaxMetas)
	expectRaw(t, whole(), unnamed, 0, m(0, m(79)), "M0 M79")
	expectError(t, whole(), make([]api.Meta, api.MaxMetas+1), 0, c(nat), api.ErrArg)
	for _, name := range []string{"x", "_", "1", "N ", "N.", "type", "ABCDEFGHIJKLMNOPQ"} {
		expectError(t, whole(), []api.Meta{{Name: "N"}, {Name: name}}, 0, c(nat), api.ErrArg)
	}
	for _, name := range []string{"N", "M1", "ABCDEFGHIJKLMNOP", "X'_1"} {
		expectRaw(t, whole(), []api.Meta{{}, {Name: name}, {Name: name}}, 0, c(s, m(1)), "s "+name)
	}
}

// P7.1: errors

func TestErrArg(t *testing.T) {
	for _, sig := range unformed() {
		expectError(t, sig, nil, 0, typ(), api.ErrArg)
	}
	for _, x := range build.Improper() {
		expectError(t, whole(), some(), 0, x, api.ErrArg)
		expectError(t, whole(), some(), 0, c(pz, x), api.ErrArg)
	}
	expectError(t, nil, nil, 0, c(nat), api.ErrScope)
	expectRaw(t, nil, nil, 0, typ(), "type")
}

func TestErrScope(t *testing.T) {
	count := len(whole())
	for _, wrong := range []api.Term{v(2), v(9), c(count), c(api.MaxN), m(3), m(api.MaxN), lam(v(3)), lams(2, v(4)), pi(v(2), c(nat)), pi(c(nat), v(3)), c(nat, v(2)), v(0, v(2)), m(0, c(count))} {
		for _, x := range []api.Term{wrong, c(s, wrong), c(s, c(z), wrong), c(pz, wrong), c(ps, c(z), wrong, c(z)), m(0, wrong), v(1, wrong), pi(wrong, c(nat))} {
			expectError(t, whole(), some(), 2, x, api.ErrScope)
		}
	}
	// It comes before ErrShape and ErrFull.
	expectError(t, whole(), nil, 0, c(s, c(pz), v(0)), api.ErrScope)
	expectError(t, whole(), nil, 0, c(s, append(copies(40, c(z)), v(0))...), api.ErrScope)
}

func TestErrShape(t *testing.T) {
	for _, wrong := range []api.Term{c(pz), c(ps), c(ps, c(z), c(z)), c(cons), lam(c(pz)), pi(c(pz), c(nat)), pi(c(nat), c(pz)), v(0, c(pz)), m(0, c(pz))} {
		for _, x := range []api.Term{wrong, c(s, wrong), c(s, c(z), wrong), c(pz, wrong), c(pz, c(z), wrong), c(ps, c(z), wrong, c(z)), lam(wrong)} {
			expectError(t, whole(), some(), 1, x, api.ErrShape)
		}
	}
	// It comes before ErrFull.
	expectError(t, whole(), nil, 0, c(s, append(copies(40, c(z)), c(pz))...), api.ErrShape)
}

func TestErrFull(t *testing.T) {
	if r, err := print.Raw(whole(), nil, 0, bush(200)); err != api.OK || rawNodes(r) != 399 {
		t.Errorf("Raw of 200 nodes has %d nodes, error %d", rawNodes(r), err)
	}
	expectError(t, whole(), nil, 0, bush(201), api.ErrFull)
	// An application of 39 arguments is nested 40 deep.
	expectError(t, whole(), nil, 0, c(s, copies(40, c(z))...), api.ErrFull)
	expectError(t, whole(), nil, 0, c(s, copies(599, c(z))...), api.ErrFull)
	if _, err := print.Text(whole(), nil, 0, c(s, copies(39, c(z))...)); err != api.OK {
		t.Errorf("an application of 39 arguments: error %d", err)
	}
	// What is left out is not counted.
	expectRaw(t, whole(), nil, 0, c(pz, c(s, copies(500, c(z))...)), "pz")
}

func rawNodes(r api.Raw) int {
	count := 1
	for _, arg := range r.Args {
		count += rawNodes(arg)
	}
	return count
}
