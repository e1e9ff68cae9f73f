package depend_test

import (
	"slices"
	"strconv"
	"testing"

	"truss/api"
	"truss/build"
	"truss/check"
	"truss/depend"
	"truss/load"
	"truss/maker"
	"truss/print"
	"truss/shape"
	"truss/term"
)

// simple makes a type of TPis and families, which are all below a number of a signature.
func simple(made *maker.Maker, families []int, depth int) api.Term {
	a := c(families[made.Below(len(families))])
	if depth == 0 {
		return a
	}
	for range made.Below(3) {
		a = pi(simple(made, families, depth-1), a)
	}
	return a
}

// signature makes a signature of families, some of which have arguments, and object constants, in any order. It is valid, if
// no family with arguments is used.
func signature(made *maker.Maker, valid bool) []api.Decl {
	sig := []api.Decl{decl("k0", typ())}
	families := []int{0}
	for n := range made.Below(14) {
		var class api.Term
		switch made.Below(4) {
		case 0:
			class = typ()
			families = append(families, n+1)
		case 1:
			class = pi(simple(made, families, 2), typ())
			if !valid {
				families = append(families, n+1)
			}
		default:
			class = simple(made, families, 3)
		}
		sig = append(sig, decl("k"+strconv.Itoa(n+1), class))
	}
	return sig
}

// standing returns the types that stand at a constant: the domains of a class, those within them, and so on.
func standing(class api.Term) []api.Term {
	domains, _, _ := term.Split(class)
	list := slices.Clone(domains)
	for _, domain := range domains {
		list = append(list, standing(domain)...)
	}
	return list
}

// A relation is a set of pairs of families.
type relation map[[2]int]bool

// addDomains adds the targets of the domains of a class as below a family.
func (r relation) addDomains(sig []api.Decl, class api.Term, family int) {
	domains, _, _ := term.Split(class)
	for _, domain := range domains {
		if target := targetOf(sig, domain); target >= 0 {
			r[[2]int{target, family}] = true
		}
	}
}

// targetOf returns the family of a type's result; -1 for what is no type.
func targetOf(sig []api.Decl, a api.Term) int {
	_, end, _ := term.Split(a)
	if end.Head != api.HCon {
		return -1
	}
	if target, err := familyOf(sig, end.N); err == api.OK && target == end.N {
		return target
	}
	return -1
}

// familyOf returns the family of the result of a constant's class; of a family itself.
func familyOf(sig []api.Decl, n int) (int, api.Errno) {
	_, end, err := term.Split(sig[n].Class)
	if end.Op == api.TType {
		return n, err
	}
	return end.N, err
}

// belowOf returns which family is below which: the rules of the document one after the other, and then their closure.
func belowOf(sig []api.Decl) relation {
	r := relation{}
	for n, d := range sig {
		if target, _ := familyOf(sig, n); target != n {
			r.addDomains(sig, d.Class, target)
		}
	}
	for _, d := range sig {
		for _, a := range standing(d.Class) {
			if target := targetOf(sig, a); target >= 0 {
				r.addDomains(sig, a, target)
			}
		}
	}
	for n, d := range sig {
		if target, _ := familyOf(sig, n); target == n {
			r.addDomains(sig, d.Class, n)
			r[[2]int{n, n}] = true
		}
	}
	for grows := true; grows; {
		grows = false
		for first := range r {
			for second := range r {
				joined := [2]int{first[0], second[1]}
				if first[1] == second[0] && !r[joined] {
					r = r.with(joined)
					grows = true
				}
			}
		}
	}
	return r
}

// with returns a relation with one more pair. (It is another one: the old one may be visited.)
func (r relation) with(pair [2]int) relation {
	longer := relation{pair: true}
	for old := range r {
		longer[old] = true
	}
	return longer
}

// expectRelation checks Below, Table, Strengthen and Groups with the definition.
func expectRelation(t *testing.T, sig []api.Decl) {
	t.Helper()
	r := belowOf(sig)
	table, err := depend.Table(sig)
	if err != api.OK || len(table) != len(sig) {
		t.Fatalf("Table = %v, %d", table, err)
	}
	var ctx []api.Term
	for n := range sig {
		if r[[2]int{n, n}] && len(ctx) < api.MaxCtx {
			ctx = append(ctx, pi(typ(), c(n)))
		}
	}
	for b := range sig {
		var want, positions []int
		for a := range sig {
			if r[[2]int{a, b}] {
				want = append(want, a)
			}
			if got, err := depend.Below(sig, a, b); err == api.OK && got != r[[2]int{a, b}] {
				t.Errorf("Below(%d, %d) of %v = %v", a, b, sig, got)
			}
		}
		if !slices.Equal(table[b], want) {
			t.Errorf("Table of %v = %v, want %v at %d", sig, table, want, b)
		}
		for at, a := range ctx {
			if r[[2]int{targetOf(sig, a), b}] {
				positions = append(positions, at)
			}
		}
		if r[[2]int{b, b}] {
			got, err := depend.Strengthen(sig, ctx, b)
			expectList(t, "Strengthen", got, err, positions, api.OK)
		}
	}
	expectOrder(t, sig, r)
}

// expectOrder checks that groups are those of families that are below each other, and that each one comes as soon as it can,
// before all with a greater smallest family that can come.
func expectOrder(t *testing.T, sig []api.Decl, r relation) {
	t.Helper()
	var want [][]int
	placed := map[int]bool{}
	canCome := func(family int) bool {
		for pair := range r {
			if pair[1] == family && !r[[2]int{family, pair[0]}] && !placed[pair[0]] {
				return false
			}
		}
		return r[[2]int{family, family}] && !placed[family]
	}
	for {
		first := slices.IndexFunc(sig, func(d api.Decl) bool {
			return canCome(slices.IndexFunc(sig, func(other api.Decl) bool { return other.Name == d.Name }))
		})
		if first < 0 {
			break
		}
		var group []int
		for n := range sig {
			if r[[2]int{n, first}] && r[[2]int{first, n}] {
				group = append(group, n)
				placed[n] = true
			}
		}
		want = append(want, group)
	}
	expectGroups(t, "made families", sig, want...)
}

// P12.2, P12.3: held against the definition

func TestBelowOfMade(t *testing.T) {
	made := maker.New(nil)
	for i := range 600 {
		expectRelation(t, signature(made, i%2 == 0))
	}
	expectRelation(t, build.Whole())
	for _, x := range odd() {
		expectRelation(t, x.sig)
	}
}

// P12.1: held against the definition; P12.5: slices are valid

func TestNeedsOfMade(t *testing.T) {
	made := maker.New(nil)
	for range 500 {
		sig := signature(made, true)
		if n, err := check.Signature(sig); err != api.OK {
			t.Fatalf("Signature = %d, %d", n, err)
		}
		expectNeeds(t, sig)
		expectSlices(t, made, sig)
	}
	for range 200 {
		expectSlices(t, made, build.Whole())
	}
	expectNeeds(t, build.Whole())
	for _, x := range odd() {
		expectNeeds(t, x.sig)
	}
}

// neededBy returns whether a constant needs another one.
func neededBy(sig []api.Decl, n, other int) bool {
	constants, _ := term.Constants(sig[n].Class)
	return slices.ContainsFunc(constants, func(within int) bool { return within == other || neededBy(sig, within, other) })
}

func expectNeeds(t *testing.T, sig []api.Decl) {
	t.Helper()
	for n := range sig {
		var needs, users []int
		for other := range sig {
			if neededBy(sig, n, other) {
				needs = append(needs, other)
			}
			if neededBy(sig, other, n) {
				users = append(users, other)
			}
		}
		got, err := depend.Needs(sig, n)
		expectList(t, "Needs", got, err, needs, api.OK)
		if len(got) > 0 && got[len(got)-1] >= n {
			t.Errorf("Needs(%d) = %v", n, got)
		}
		got, err = depend.Users(sig, n)
		expectList(t, "Users", got, err, users, api.OK)
	}
}

func expectSlices(t *testing.T, made *maker.Maker, sig []api.Decl) {
	t.Helper()
	var list, want []int
	for range made.Below(4) {
		list = append(list, made.Below(len(sig)))
	}
	for n := range sig {
		if slices.Contains(list, n) || slices.ContainsFunc(list, func(user int) bool { return neededBy(sig, user, n) }) {
			want = append(want, n)
		}
	}
	slice, old, err := depend.Slice(sig, list)
	expectList(t, "Slice", old, err, want, api.OK)
	if n, err := check.Signature(slice); n != len(want) || err != api.OK {
		t.Errorf("Slice of %v to %v = %v: error %d of the kernel at %d", sig, list, slice, err, n)
	}
	for n := range slice {
		got, err := print.Line(slice, n)
		if whole, _ := print.Line(sig, old[n]); got != whole || err != api.OK {
			t.Errorf("%s is %q, %d", whole, got, err)
		}
	}
	// A slice of all is all.
	all := make([]int, len(slice))
	for n := range all {
		all[n] = n
	}
	again, old, err := depend.Slice(slice, all)
	expectList(t, "Slice of a slice", old, err, all, api.OK)
	if !load.Same(api.Loaded{Sig: slice}, api.Loaded{Sig: again}) {
		t.Errorf("Slice of %v = %v", slice, again)
	}
}

// isLevel reports whether the targets of a type's domains, and of those within them, are below its target.
func isLevel(sig []api.Decl, a api.Term) bool {
	target, _ := shape.Target(sig, a)
	for domain := range shape.Domains(a) {
		lower, _ := shape.Target(sig, domain)
		if ok, err := depend.Below(sig, lower, target); !ok || err != api.OK || !isLevel(sig, domain) {
			return false
		}
	}
	return true
}

// P12.6

func TestStrengthened(t *testing.T) {
	made := maker.New(nil)
	sig := build.Whole()
	count, fewer, functions := 0, 0, 0
	for range 8000 {
		ctx := made.Context(5)
		a, ok := made.Class(ctx, 3)
		if !ok || !isLevel(sig, a) || slices.ContainsFunc(ctx, func(b api.Term) bool { return !isLevel(sig, b) }) {
			continue
		}
		x, ok := made.Object(ctx, a, 4)
		if !ok {
			continue
		}
		target, _ := shape.Target(sig, a)
		positions, err := depend.Strengthen(sig, ctx, target)
		if err != api.OK {
			t.Fatalf("Strengthen: error %d", err)
		}
		variables, _ := term.Free(x)
		for _, n := range variables {
			if !slices.Contains(positions, len(ctx)-1-n) {
				t.Errorf("the object %v of %v contains the variable %d of %v", x, a, n, ctx)
			}
		}
		count++
		if len(variables) > 0 && len(positions) < len(ctx) {
			fewer++
		}
		if a.Op == api.TPi {
			functions++
		}
	}
	if count < 1000 || fewer < 100 || functions < 50 {
		t.Errorf("only %d objects, %d in a context that can be strengthened, %d functions", count, fewer, functions)
	}
}
