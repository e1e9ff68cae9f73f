package depend_test

import (
	"slices"
	"strconv"
	"testing"

	"truss/api"
	"truss/build"
	"truss/depend"
)

var (
	typ  = build.Type
	pi   = build.Pi
	to   = build.To
	lam  = build.Lam
	v    = build.Var
	c    = build.Con
	m    = build.Meta
	decl = build.Decl
)

const (
	nat  = build.Nat
	z    = build.Z
	s    = build.S
	plus = build.Plus
	pz   = build.Pz
	ps   = build.Ps
	vec  = build.Vec
	tm   = build.Tm
	step = build.Step
)

// An oddity is a formed signature that is not valid, and which families are below each family.
type oddity struct {
	sig   []api.Decl
	below map[int][]int
}

func odd() []oddity {
	const object, next = 2, 3
	a, b := c(0), c(1)
	after := func(below map[int][]int, classes ...api.Term) oddity {
		sig := []api.Decl{decl("a", typ()), decl("b", typ()), decl("c", a)}
		for _, class := range classes {
			sig = append(sig, decl("k"+strconv.Itoa(len(sig)), class))
		}
		return oddity{sig, below}
	}
	apart := map[int][]int{0: {0}, 1: {1}}
	three := map[int][]int{0: {0}, 1: {1}, next: {next}}
	aBelow, bBelow := map[int][]int{0: {0}, 1: {0, 1}}, map[int][]int{0: {0, 1}, 1: {1}}
	return []oddity{
		// Domains without targets: kinds, objects, variables.
		after(apart, pi(typ(), a)), after(apart, pi(c(object), a)), after(aBelow, pi(a, pi(v(0), b))), after(apart, pi(lam(a), b)), after(three, pi(lam(a), typ())),
		after(three, pi(c(object, b), typ())), after(apart, pi(pi(a, typ()), b)),
		// What stands within them has targets, but for what is within a TLam.
		after(aBelow, pi(pi(pi(a, b), typ()), a)), after(aBelow, pi(pi(pi(a, b), c(object)), a)), after(apart, pi(lam(pi(a, b)), b)),
		after(map[int][]int{0: {0, 1}, 1: {1}, next: {next}}, pi(pi(pi(b, a), typ()), typ())),
		// Arguments are not domains.
		after(apart, c(0, pi(b, a))), after(apart, c(0, b, lam(pi(b, a)))), after(apart, pi(c(0, pi(b, a)), a)),
		// Families with other arguments than theirs.
		after(bBelow, pi(c(1, a, a), a)), after(map[int][]int{0: {0, next}, 1: {1}, next: {next}}, typ(), pi(c(next, b), a)),
		after(map[int][]int{0: {0}, 1: {0, 1, next}, next: {0, next}}, typ(), pi(a, c(next, b)), pi(c(next), c(1, c(4)))),
	}
}

// expectList checks a list and an error.
func expectList(t *testing.T, name string, got []int, err api.Errno, want []int, wantErr api.Errno) {
	t.Helper()
	if err != wantErr || !slices.Equal(got, want) {
		t.Errorf("%s = %v, %d; want %v, %d", name, got, err, want, wantErr)
	}
}

// expectGroups checks the groups of a signature.
func expectGroups(t *testing.T, name string, sig []api.Decl, want ...[]int) {
	t.Helper()
	got, err := depend.Groups(sig)
	if err != api.OK || !slices.EqualFunc(got, want, slices.Equal[[]int]) {
		t.Errorf("Groups of %s = %v, %d; want %v", name, got, err, want)
	}
}

// expectBelow checks which families are below which: for each family, those below it.
func expectBelow(t *testing.T, sig []api.Decl, want map[int][]int) {
	t.Helper()
	table, err := depend.Table(sig)
	if err != api.OK || len(table) != len(sig) {
		t.Errorf("Table = %v, %d", table, err)
		return
	}
	for n, list := range table {
		if !slices.Equal(list, want[n]) {
			t.Errorf("below %s are %v, want %v", sig[n].Name, list, want[n])
		}
	}
}
