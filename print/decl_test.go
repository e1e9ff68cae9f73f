package print_test

import (
	"slices"
	"strings"
	"testing"

	"truss/api"
	"truss/build"
	"truss/print"
	"truss/syntax"
)

// wholeLines returns the lines of the signature whole.
func wholeLines() []string {
	return []string{
		"nat : type.", "z : nat.", "s : nat -> nat.", "plus : nat -> nat -> nat -> type.", "pz : plus z X1 X1.",
		"ps : plus X1 X2 X3 -> plus (s X1) X2 (s X3).", "vec : nat -> type.", "empty : vec z.", "cons : nat -> vec X1 -> vec (s X1).",
		"tm : type.", "lam : (tm -> tm) -> tm.", "app : tm -> tm -> tm.", "step : tm -> tm -> type.",
		"beta : step (app (lam ([x3] X1 x3)) X2) (X1 X2).", "each : {x1:nat -> nat} ({x2:nat} plus x2 (x1 x2) (x1 x2)) -> vec (x1 z).",
	}
}

// expectDecl checks Decl and Line of a constant: its line as wanted is read to know the item.
func expectDecl(t *testing.T, sig []api.Decl, n int, want string) {
	t.Helper()
	line, err := print.Line(sig, n)
	expectText(t, "Line", line, err, want, api.OK)
	item, err := print.Decl(sig, n)
	wanted, _, wantErr := syntax.Items(want)
	if err != api.OK || wantErr != api.OK || item.Name != wanted[0].Name || item.Word != "" || len(item.Parts) > 0 || !syntax.Same(item.Raw, wanted[0].Raw) {
		t.Errorf("Decl(%d) = %v, %d; want %v", n, item, err, wanted)
	}
}

// expectNoDecl checks that Decl and Line of a constant have this error.
func expectNoDecl(t *testing.T, sig []api.Decl, n int, want api.Errno) {
	t.Helper()
	line, err := print.Line(sig, n)
	expectText(t, "Line", line, err, "", want)
	item, err := print.Decl(sig, n)
	if err != want || item.Name != "" || !syntax.Same(item.Raw, api.Raw{}) {
		t.Errorf("Decl(%d) = %v, %d; want error %d", n, item, err, want)
	}
}

// P7.2: declarations

func TestDecl(t *testing.T) {
	for n, want := range wholeLines() {
		expectDecl(t, whole(), n, want)
	}
	for _, n := range []int{-1, 15, 100, 1 << 62, -1 << 62} {
		expectNoDecl(t, whole(), n, api.ErrNone)
	}
	expectNoDecl(t, nil, 0, api.ErrNone)
	for _, sig := range unformed() {
		expectNoDecl(t, sig, 0, api.ErrArg)
		expectNoDecl(t, sig, -1, api.ErrArg)
	}
}

// P7.2: what is bound by the Implicit TPis is called X1, X2, ..., and the others are numbered after them

func TestImplicitNames(t *testing.T) {
	n := c(nat)
	add := func(count int, class api.Term) []api.Decl { return append(whole(), implicit(count, decl("k", class))) }
	class := to(n, n, n, c(plus, v(2), v(1), v(0)))
	for count, want := range []string{
		"k : {x1:nat} {x2:nat} {x3:nat} plus x1 x2 x3.", "k : {x2:nat} {x3:nat} plus X1 x2 x3.", "k : {x3:nat} plus X1 X2 x3.", "k : plus X1 X2 X3.",
	} {
		expectDecl(t, add(count, class), 15, want)
	}
	expectDecl(t, add(2, to(n, n, n, n, c(vec, v(0)))), 15, "k : nat -> {x3:nat} vec x3.")
	expectDecl(t, add(1, to(n, n, typ())), 15, "k : nat -> type.")
	expectDecl(t, add(1, pi(to(n, typ()), n)), 15, "k : nat.")
	// Names of constants are avoided, also by those that are numbered after the implicit ones.
	sig := append(named("x1", "x2", "x2'", "x4"), implicit(1, decl("k", to(c(0), c(0), c(0), c(0, v(2), v(1), v(0))))))
	expectDecl(t, sig, 5, "k : {x2'':a} {x3:a} a X1 x2'' x3.")
	// All 39 outermost TPis may be implicit.
	many := n
	for range 39 {
		many = pi(n, many)
	}
	expectDecl(t, add(39, many), 15, "k : nat.")
	many = c(vec, v(37), v(0))
	for range 38 {
		many = pi(n, many)
	}
	expectDecl(t, add(38, many), 15, "k : vec X1 X38.")
}

// P7.2: errors, also of what is not written

func TestDeclErrors(t *testing.T) {
	n := c(nat)
	add := func(count int, class api.Term) []api.Decl { return append(whole(), implicit(count, decl("k", class))) }
	for _, class := range []api.Term{c(vec, c(pz)), pi(c(vec, c(ps, n, n)), n), pi(n, c(vec, c(s, c(cons)))), pi(c(nat, lam(c(pz))), typ()), pi(n, c(vec, c(pz, c(pz))))} {
		expectNoDecl(t, add(0, class), 15, api.ErrShape)
	}
	expectNoDecl(t, add(1, pi(c(vec, c(pz)), n)), 15, api.ErrShape)
	expectNoDecl(t, add(1, pi(c(vec, c(pz)), c(nat, copies(40, n)...))), 15, api.ErrShape)
	expectNoDecl(t, add(0, c(nat, copies(40, n)...)), 15, api.ErrFull)
	expectNoDecl(t, add(0, pi(bush(201), n)), 15, api.ErrFull)
	expectDecl(t, add(1, pi(bush(201), n)), 15, "k : nat.")
	// A name that is too long, where it is written.
	sig := append(named(primed("x1", 15)...), decl("k", pi(c(0), c(0, v(0)))))
	expectNoDecl(t, sig, 16, api.ErrFull)
	sig[16].Implicit = 1
	expectDecl(t, sig, 16, "k : a X1.")
	sig[16] = decl("k", to(c(0), c(0)))
	expectDecl(t, sig, 16, "k : a -> a.")
}

// P7.2: all constants

func TestLines(t *testing.T) {
	got, err := print.Lines(whole())
	expectText(t, "Lines", got, err, strings.Join(wholeLines(), "\n")+"\n", api.OK)
	got, err = print.Lines(nil)
	expectText(t, "Lines of nothing", got, err, "", api.OK)
	got, err = print.Lines(build.Flat(api.MaxDecls))
	if err != api.OK || strings.Count(got, "\n") != api.MaxDecls {
		t.Errorf("Lines of %d constants = %q, %d", api.MaxDecls, got, err)
	}
	for _, sig := range unformed() {
		got, err = print.Lines(sig)
		expectText(t, "Lines", got, err, "", api.ErrArg)
	}
	// The first constant that has an error decides.
	full, shape := decl("k", c(nat, copies(40, c(nat))...)), decl("l", c(vec, c(pz)))
	for want, sig := range map[api.Errno][]api.Decl{api.ErrFull: append(whole(), full, shape), api.ErrShape: append(whole(), shape, full)} {
		got, err = print.Lines(sig)
		expectText(t, "Lines", got, err, "", want)
	}
}

// P7.2: what is printed can be read again

func TestLinesAreItems(t *testing.T) {
	lines, _ := print.Lines(whole())
	items, _, err := syntax.Items(lines)
	expect(t, "Items", err, api.OK)
	for n, item := range items {
		if got, _ := print.Decl(whole(), n); got.Name != item.Name || !syntax.Same(got.Raw, item.Raw) {
			t.Errorf("Decl(%d) = %v, read again it is %v", n, got, item)
		}
	}
	if len(items) != len(whole()) {
		t.Errorf("%d items", len(items))
	}
}

// P7.3: contexts

func TestContext(t *testing.T) {
	n := c(nat)
	for _, example := range []struct {
		ctx  []api.Term
		want string
	}{
		{nil, ""},
		{[]api.Term{n}, "x1:nat"},
		{[]api.Term{n, c(plus, v(0), v(0), v(0))}, "x1:nat, x2:plus x1 x1 x1"},
		{[]api.Term{n, c(vec, v(0)), to(n, c(vec, v(0))), to(c(vec, v(2)), n, c(vec, v(0)))}, "x1:nat, x2:vec x1, x3:{x3:nat} vec x3, x4:vec x1 -> {x4:nat} vec x4"},
		{[]api.Term{typ(), lam(v(0, v(1)))}, "x1:type, x2:[x2] x2 x1"},
		{[]api.Term{n, c(pz, v(0), v(0))}, "x1:nat, x2:pz x1"},
	} {
		got, err := print.Context(whole(), example.ctx)
		expectText(t, "Context", got, err, example.want, api.OK)
	}
	got, err := print.Context(named("x1", "x3", "x3'"), copies(3, c(0)))
	expectText(t, "Context", got, err, "x1':a, x2:a, x3'':a", api.OK)
}

func TestContextErrors(t *testing.T) {
	n := c(nat)
	fails := func(sig []api.Decl, ctx []api.Term, want api.Errno) {
		t.Helper()
		got, err := print.Context(sig, ctx)
		expectText(t, "Context", got, err, "", want)
	}
	if got, err := print.Context(whole(), copies(api.MaxCtx, n)); err != api.OK || strings.Count(got, ", ") != api.MaxCtx-1 || !strings.HasSuffix(got, ", x30:nat") {
		t.Errorf("Context of %d types = %q, %d", api.MaxCtx, got, err)
	}
	fails(whole(), copies(api.MaxCtx+1, n), api.ErrArg)
	for _, sig := range unformed() {
		fails(sig, nil, api.ErrArg)
	}
	for _, x := range build.Improper() {
		fails(whole(), []api.Term{v(0), x}, api.ErrArg)
	}
	scope := []api.Term{v(0), c(15), m(0), lam(v(1)), c(pz, v(0))}
	shape := []api.Term{c(pz), c(s, c(ps, n, n)), lam(c(pz)), c(pz, c(pz))}
	full := []api.Term{c(s, copies(40, n)...), bush(201)}
	for _, list := range []struct {
		wrong []api.Term
		want  api.Errno
	}{{scope, api.ErrScope}, {shape, api.ErrShape}, {full, api.ErrFull}} {
		for _, x := range list.wrong {
			fails(whole(), []api.Term{x}, list.want)
			// The first type that has an error decides.
			for _, y := range slices.Concat(scope, shape, full) {
				fails(whole(), []api.Term{x, y}, list.want)
			}
		}
	}
	// A variable's type sees those before it alone.
	fails(whole(), []api.Term{n, v(1)}, api.ErrScope)
	// A name that is too long, also of a variable that does not occur; its type's errors come first.
	got, err := print.Context(named(primed("x1", 14)...), []api.Term{c(0)})
	expectText(t, "Context", got, err, "x1'''''''''''''':a", api.OK)
	sig := append(named(primed("x1", 15)...), implicit(1, decl("f", to(c(0), c(0)))))
	fails(sig, []api.Term{c(0)}, api.ErrFull)
	fails(sig, []api.Term{v(0)}, api.ErrScope)
	fails(sig, []api.Term{c(16)}, api.ErrShape)
	fails(sig, []api.Term{c(0), v(5)}, api.ErrFull)
	fails(append(named(primed("x2", 15)...), decl("k", c(0))), []api.Term{c(0), c(0)}, api.ErrFull)
}
