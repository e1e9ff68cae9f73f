package meta_test

import (
	"slices"
	"strconv"
	"testing"

	"truss/api"
	"truss/build"
	"truss/term"
)

var (
	typ    = build.Type
	pi     = build.Pi
	to     = build.To
	lam    = build.Lam
	lams   = build.Lams
	v      = build.Var
	c      = build.Con
	m      = build.Meta
	hole   = build.Hole
	named  = build.Named
	solved = build.Solved
	copies = build.Copies
	whole  = build.Whole
)

const (
	nat  = build.Nat
	z    = build.Z
	s    = build.S
	plus = build.Plus
	pz   = build.Pz
	vec  = build.Vec
	tm   = build.Tm
)

// holes returns so many metavariables of the type nat.
func holes(count int) []api.Meta {
	return slices.Repeat([]api.Meta{hole(c(nat))}, count)
}

// chain returns so many metavariables, each of which is solved by what next makes of the one after it, except for the last one.
func chain(count int, next func(after api.Term) api.Term) []api.Meta {
	var metas []api.Meta
	for n := range count - 1 {
		metas = append(metas, solved(c(nat), next(m(n+1))))
	}
	return append(metas, hole(c(nat)))
}

// unformed returns lists that are not formed, each for one reason.
func unformed() map[string][]api.Meta {
	n := c(nat)
	lists := map[string][]api.Meta{
		"too many":             holes(api.MaxMetas + 1),
		"a small name":         {named("x", n)},
		"a name that is long":  {named("ABCDEFGHIJKLMNOPQ", n)},
		"no name":              {named("M ", n)},
		"the same name":        {named("A", n), hole(n), named("A", n)},
		"the name before":      {hole(n), named("A", n), named("A", n)},
		"a free variable":      {hole(c(vec, v(0)))},
		"one beyond a TPi":     {hole(pi(n, c(vec, v(1))))},
		"a kind":               {hole(typ())},
		"the kind of a family": {hole(to(n, typ()))},
		"a kind as a domain":   {hole(to(typ(), n))},
		"an object":            {hole(lam(n))},
		"a type of a meta":     {hole(n), hole(m(0))},
		"a bound type":         {hole(pi(n, v(0)))},
		"no such one":          {hole(c(vec, m(1)))},
		"none in a spine":      {hole(pi(n, c(vec, v(0, m(9)))))},
		"none in a Value":      {solved(n, m(1))},
		"a Value that is open": {solved(n, v(0))},
		"one beyond a TLam":    {solved(to(n, n), lam(v(1)))},
		"no Value":             {{Class: n, Solved: true}},
		"needs itself":         {hole(c(vec, m(0)))},
		"is itself":            {solved(n, m(0))},
		"contains itself":      {solved(n, c(s, m(0)))},
		"a circle of Values":   {solved(n, m(1)), solved(n, m(2)), solved(n, c(s, m(0)))},
		"a circle of Classes":  {hole(c(vec, m(1))), hole(c(vec, m(0)))},
		"a circle of both":     {hole(n), hole(c(vec, m(2))), solved(c(vec, m(3)), m(1)), hole(n)},
		"a long circle":        append(chain(api.MaxMetas, func(after api.Term) api.Term { return c(s, after) })[:api.MaxMetas-1], hole(c(vec, m(40)))),
		"Op without Solved":    {{Class: n, Value: api.Term{Op: api.TType}}},
		"Head without Solved":  {{Class: n, Value: api.Term{Head: api.HCon}}},
		"N without Solved":     {{Class: n, Value: api.Term{N: 1}}},
		"Args without Solved":  {{Class: n, Value: api.Term{Args: []api.Term{{}}}}},
	}
	for i, x := range build.Improper() {
		lists["Class "+strconv.Itoa(i)] = []api.Meta{hole(n), hole(x)}
		lists["Value "+strconv.Itoa(i)] = []api.Meta{hole(n), solved(n, x)}
	}
	return lists
}

func expect(t *testing.T, name string, got, want api.Errno) {
	t.Helper()
	if got != want {
		t.Errorf("%s: error %d, want %d", name, got, want)
	}
}

func expectTerm(t *testing.T, name string, got api.Term, err api.Errno, want api.Term, wantErr api.Errno) {
	t.Helper()
	if err != wantErr || !term.Same(got, want) {
		t.Errorf("%s = %v, %d; want %v, %d", name, got, err, want, wantErr)
	}
}

func expectList(t *testing.T, name string, got []api.Meta, err api.Errno, want []api.Meta, wantErr api.Errno) {
	t.Helper()
	if err != wantErr || !build.SameMetas(got, want) {
		t.Errorf("%s = %v, %d; want %v, %d", name, got, err, want, wantErr)
	}
}
