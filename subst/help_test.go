package subst

import (
	"reflect"
	"slices"
	"testing"

	"truss/api"
	"truss/build"
	"truss/term"
)

var (
	typ  = build.Type
	pi   = build.Pi
	lam  = build.Lam
	app  = build.App
	v    = build.Var
	c    = build.Con
	meta = build.Meta
)

// to returns the simple type with these arguments, the last one of which is that of the result.
func to(simples ...api.Simple) api.Simple {
	last := len(simples) - 1
	return api.Simple{Con: simples[last].Con, Args: append(slices.Clone(simples[:last]), simples[last].Args...)}
}

func con(n int) api.Simple { return api.Simple{Con: n} }

// nodes returns a term with as many nodes as count says that is nested 2 deep.
func nodes(count int) api.Term { return c(0, leaves(count-1)...) }

func leaves(count int) []api.Term { return build.Copies(count, c(1)) }

// tower returns a term that is nested as deep as depth says.
func tower(depth int, innermost api.Term) api.Term {
	t := innermost
	for range depth - 1 {
		t = c(0, t)
	}
	return t
}

// improper returns terms that are not proper.
func improper() []api.Term {
	return append(build.Improper(), nodes(api.MaxNodes+1), tower(api.MaxDepth+1, c(0)))
}

// large returns simple types that are not small.
func large() []api.Simple {
	endless := make([]api.Simple, 1)
	endless[0] = api.Simple{Args: endless}
	return []api.Simple{con(-1), con(api.MaxN + 1), to(con(-1), con(0)), to(con(0), to(con(0), con(api.MaxN+1))), flat(api.MaxNodes + 1), steep(api.MaxNodes + 1), steep(100000), flat(100000), endless[0]}
}

// flat returns a simple type with as many constants as count says, all of them but one as Args.
func flat(count int) api.Simple {
	return api.Simple{Args: slices.Repeat([]api.Simple{con(0)}, count-1)}
}

// steep returns a simple type with as many constants as count says, each within the Args of the one before it.
func steep(count int) api.Simple {
	s := con(0)
	for range count - 1 {
		s = api.Simple{Args: []api.Simple{s}}
	}
	return s
}

func check(t *testing.T, name string, got api.Term, err api.Errno, want api.Term, wantErr api.Errno) {
	t.Helper()
	if err != wantErr || !term.Same(got, want) {
		t.Errorf("%s = %v, %d; want %v, %d", name, got, err, want, wantErr)
	}
}

func checkSubst(t *testing.T, x api.Term, n int, s api.Term, simple api.Simple, want api.Term, wantErr api.Errno) {
	t.Helper()
	got, err := Subst(x, n, s, simple)
	check(t, "Subst", got, err, want, wantErr)
}

func checkApply(t *testing.T, f api.Term, l []api.Term, simple api.Simple, want api.Term, wantErr api.Errno) {
	t.Helper()
	got, err := Apply(f, l, simple)
	check(t, "Apply", got, err, want, wantErr)
}

func checkInstance(t *testing.T, class api.Term, l []api.Term, want api.Term, wantErr api.Errno) {
	t.Helper()
	got, err := Instance(class, l)
	check(t, "Instance", got, err, want, wantErr)
}

func checkMany(t *testing.T, x api.Term, l []api.Term, simples []api.Simple, want api.Term, wantErr api.Errno) {
	t.Helper()
	got, err := Many(x, l, simples)
	check(t, "Many", got, err, want, wantErr)
}

// checkNew checks that no two lists of a result share memory, and that none does with an argument.
func checkNew(t *testing.T, result api.Term, arguments ...api.Term) {
	t.Helper()
	seen := map[*api.Term]bool{}
	var visit func(x api.Term, isResult bool)
	visit = func(x api.Term, isResult bool) {
		for i := range x.Args {
			if isResult && seen[&x.Args[i]] {
				t.Errorf("memory is shared in %v", result)
				return
			}
			seen[&x.Args[i]] = true
			visit(x.Args[i], isResult)
		}
	}
	for _, argument := range arguments {
		visit(argument, false)
	}
	visit(result, true)
}

func isZero(t api.Term) bool { return reflect.DeepEqual(t, api.Term{}) }
