package scope_test

import (
	"slices"
	"testing"

	"truss/api"
	"truss/build"
	"truss/scope"
	"truss/stop"
	"truss/term"
)

var (
	v   = build.Var
	c   = build.Con
	m   = build.Meta
	lam = build.Lam
	pi  = build.Pi
)

func expectTerm(t *testing.T, name string, compute func() api.Term, want api.Term, wantErr api.Errno) {
	t.Helper()
	got, err := stop.Result(compute)
	if err != wantErr || !term.Same(got, want) {
		t.Errorf("%s = %v, %d; want %v, %d", name, got, err, want, wantErr)
	}
}

// P9.1, P10.2: contexts

func TestContexts(t *testing.T) {
	ctx := build.Copies(api.MaxCtx, c(0))
	longer, err := stop.Result(func() []api.Term { return scope.Longer(ctx[:api.MaxCtx-1], c(1)) })
	if err != api.OK || len(longer) != api.MaxCtx || !term.Same(longer[api.MaxCtx-1], c(1)) || !term.Same(ctx[api.MaxCtx-1], c(0)) {
		t.Errorf("Longer = %v, %d", longer, err)
	}
	longer, err = stop.Result(func() []api.Term { return scope.Longer(ctx, c(1)) })
	if err != api.ErrFull || len(longer) > 0 {
		t.Errorf("Longer = %v, %d", longer, err)
	}
	ctx = []api.Term{c(0), c(1, v(0)), pi(c(0), c(1, v(0), v(2))), c(1, v(api.MaxN))}
	for n, want := range []api.Term{{}, pi(c(0), c(1, v(0), v(4))), c(1, v(3)), c(0)} {
		if n > 0 {
			expectTerm(t, "TypeOf", func() api.Term { return scope.TypeOf(ctx, n) }, want, api.OK)
		}
	}
	expectTerm(t, "TypeOf", func() api.Term { return scope.TypeOf(ctx, 0) }, api.Term{}, api.ErrFull)
	metas := make([]api.Meta, 2)
	if !scope.IsContext(metas, []api.Term{c(0), m(1), v(9)}) || scope.IsContext(metas, []api.Term{c(0), m(2)}) || scope.IsContext(nil, build.Copies(31, c(0))) {
		t.Error("IsContext is wrong")
	}
	for _, x := range build.Improper() {
		if scope.IsOver(metas, c(0), x) || scope.AreProper(c(0), x) {
			t.Errorf("IsOver or AreProper of %v", x)
		}
	}
	if !scope.AreProper() || !scope.AreProper(c(0), m(9), v(api.MaxN)) {
		t.Error("AreProper is wrong")
	}
}

// P9.1, P13.2: classes of heads

func TestClassOf(t *testing.T) {
	sig := build.Numbers()
	ctx := []api.Term{c(0), c(1, v(0))}
	expectTerm(t, "ClassOf", func() api.Term { return scope.ClassOf(sig, ctx, c(build.S, v(0))) }, sig[build.S].Class, api.OK)
	expectTerm(t, "ClassOf", func() api.Term { return scope.ClassOf(sig, ctx, v(0)) }, c(1, v(1)), api.OK)
	expectTerm(t, "ClassOf", func() api.Term { return scope.ClassOf(sig, ctx, v(1, c(0))) }, c(0), api.OK)
}

// P8.4, P14.3: spines of variables

func TestVariables(t *testing.T) {
	for _, x := range []struct {
		spine []api.Term
		want  []int
		ok    bool
	}{
		{nil, nil, true},
		{[]api.Term{v(3), v(0), lam(v(2, v(0)))}, []int{3, 0, 1}, true},
		{[]api.Term{v(3), lam(v(4, v(0)))}, nil, false},
		{[]api.Term{v(3), v(3)}, nil, false},
		{[]api.Term{v(3), c(0)}, nil, false},
		{[]api.Term{m(0)}, nil, false},
		{[]api.Term{lam(v(0))}, nil, false},
		{[]api.Term{v(1, v(0))}, nil, false},
	} {
		if got, ok := scope.Variables(x.spine); ok != x.ok || !slices.Equal(got, x.want) {
			t.Errorf("Variables of %v = %v, %v; want %v, %v", x.spine, got, ok, x.want, x.ok)
		}
	}
}

// P9.1 (values), P10.1 (first uses): terms where other variables are in scope

func TestOnto(t *testing.T) {
	for _, x := range []struct {
		variables []int
		t, want   api.Term
		ok        bool
	}{
		{nil, c(0), c(0), true},
		{nil, v(0), api.Term{}, false},
		{nil, lam(v(0)), lam(v(0)), true},
		{[]int{5}, v(5), v(0), true},
		{[]int{5, 2}, c(0, v(5), v(2)), c(0, v(1), v(0)), true},
		{[]int{5, 2}, c(0, v(5), v(0)), api.Term{}, false},
		{[]int{1, 0}, v(1, v(0)), v(1, v(0)), true},
		{[]int{0, 1}, v(1, v(0)), v(0, v(1)), true},
		{[]int{3}, lam(v(4, v(0), lam(v(5, v(1), v(0))))), lam(v(1, v(0), lam(v(2, v(1), v(0))))), true},
		{[]int{3}, pi(v(3), v(4, v(0))), pi(v(0), v(1, v(0))), true},
		{[]int{3}, pi(v(3), v(3, v(0))), api.Term{}, false},
		{[]int{3}, m(3, c(3), v(3)), m(3, c(3), v(0)), true},
	} {
		got, ok := scope.Onto(x.variables, x.t)
		if ok != x.ok || !term.Same(got, x.want) {
			t.Errorf("Onto(%v, %v) = %v, %v; want %v", x.variables, x.t, got, ok, x.want)
		}
	}
}

// P9.1: what is bound and what is free

func TestArgs(t *testing.T) {
	for _, x := range []struct {
		t    api.Term
		want []int
	}{{c(0), nil}, {v(0, c(0), c(1)), []int{4, 4}}, {lam(c(0)), []int{5}}, {pi(c(0), c(1)), []int{4, 5}}} {
		var got []int
		for binders, arg := range scope.Args(x.t, 4) {
			got = append(got, binders)
			if !term.Same(arg, x.t.Args[len(got)-1]) {
				t.Errorf("an Arg of %v is %v", x.t, arg)
			}
		}
		if !slices.Equal(got, x.want) {
			t.Errorf("Args of %v are below %v, want %v", x.t, got, x.want)
		}
	}
	for range scope.Args(v(0, c(0), c(1)), 0) {
		break
	}
	if n, ok := scope.Free(v(5), 3); n != 2 || !ok {
		t.Errorf("Free = %d, %v", n, ok)
	}
	for _, x := range []api.Term{v(2), c(5), m(5), lam(v(5))} {
		if _, ok := scope.Free(x, 3); ok {
			t.Errorf("%v is a free variable", x)
		}
	}
}

// P9.1, P10.1: terms that are not proper

func TestUnder(t *testing.T) {
	expectTerm(t, "Under", func() api.Term { return scope.Under(2, v(1)) }, lam(lam(v(1))), api.OK)
	expectTerm(t, "Under", func() api.Term { return scope.Under(39, c(0)) }, build.Lams(39, c(0)), api.OK)
	expectTerm(t, "Under", func() api.Term { return scope.Under(40, c(0)) }, api.Term{}, api.ErrFull)
	expectTerm(t, "Proper", func() api.Term { return scope.Proper(c(0)) }, c(0), api.OK)
	expectTerm(t, "Proper", func() api.Term { return scope.Proper(c(0, build.Copies(600, c(0))...)) }, api.Term{}, api.ErrFull)
}
