package depend_test

import (
	"slices"
	"strconv"
	"testing"

	"truss/api"
	"truss/build"
	"truss/check"
	"truss/depend"
	"truss/load"
	"truss/written"
)

// The examples of the document

func TestExamples(t *testing.T) {
	sig := build.Numbers()
	if ok, err := depend.Below(sig, nat, plus); !ok || err != api.OK {
		t.Errorf("Below = %v, %d", ok, err)
	}
	if ok, err := depend.Below(sig, plus, nat); ok || err != api.OK {
		t.Errorf("Below = %v, %d", ok, err)
	}
	expectGroups(t, "numbers", sig, []int{nat}, []int{plus})
	terms := written.Sig("tm : type. lam : (tm -> tm) -> tm. app : tm -> tm -> tm.")
	if ok, err := depend.Below(terms, 0, 0); !ok || err != api.OK {
		t.Errorf("Below = %v, %d", ok, err)
	}
	if ok, err := depend.Higher(terms, 0); !ok || err != api.OK {
		t.Errorf("Higher = %v, %d", ok, err)
	}
	slice, old, err := depend.Slice(sig, []int{ps})
	expectList(t, "Slice", old, err, []int{nat, s, plus, ps}, api.OK)
	want := written.Sig("nat : type. s : nat -> nat. plus : nat -> nat -> nat -> type. ps : plus (s M) N (s P) <- plus M N P.")
	if !load.Same(api.Loaded{Sig: slice}, api.Loaded{Sig: want}) {
		t.Errorf("Slice = %v", slice)
	}
}

// P12.1

func TestNeeds(t *testing.T) {
	sig := build.Whole()
	for n, want := range map[int][]int{
		nat: nil, z: {nat}, s: {nat}, plus: {nat}, pz: {nat, z, plus}, ps: {nat, s, plus}, vec: {nat}, build.Empty: {nat, z, vec}, build.Cons: {nat, s, vec},
		tm: nil, build.Lambda: {tm}, build.Apply: {tm}, step: {tm}, build.Beta: {tm, build.Lambda, build.Apply, step}, build.Each: {nat, z, plus, vec},
	} {
		got, err := depend.Needs(sig, n)
		expectList(t, "Needs of "+sig[n].Name, got, err, want, api.OK)
	}
	for n, want := range map[int][]int{
		nat: {z, s, plus, pz, ps, vec, build.Empty, build.Cons, build.Each}, z: {pz, build.Empty, build.Each}, s: {ps, build.Cons}, plus: {pz, ps, build.Each}, pz: nil,
		tm: {build.Lambda, build.Apply, step, build.Beta}, build.Beta: nil, build.Each: nil,
	} {
		got, err := depend.Users(sig, n)
		expectList(t, "Users of "+sig[n].Name, got, err, want, api.OK)
	}
}

// What is needed is needed over any number of steps, wherever it stands in a class.
func TestNeedsFar(t *testing.T) {
	sig := []api.Decl{decl("a", typ())}
	for n := range api.MaxDecls - 1 {
		sig = append(sig, decl("a"+strconv.Itoa(n), pi(c(n), typ())))
	}
	got, err := depend.Needs(sig, api.MaxDecls-1)
	all := make([]int, api.MaxDecls-1)
	for n := range all {
		all[n] = n
	}
	expectList(t, "Needs", got, err, all, api.OK)
	got, err = depend.Users(sig, 0)
	if err != api.OK || len(got) != api.MaxDecls-1 || got[0] != 1 || got[98] != 99 {
		t.Errorf("Users = %v, %d", got, err)
	}
	objects := []api.Decl{decl("a", typ()), decl("b", c(0)), decl("c", c(0)), decl("d", c(0)), decl("e", pi(c(0, c(1)), c(0, lam(c(0, v(0), c(3)))))), decl("f", pi(c(0), pi(pi(c(0), c(0, c(4))), typ())))}
	got, err = depend.Needs(objects, 4)
	expectList(t, "Needs", got, err, []int{0, 1, 3}, api.OK)
	got, err = depend.Needs(objects, 5)
	expectList(t, "Needs", got, err, []int{0, 1, 3, 4}, api.OK)
	got, err = depend.Users(objects, 2)
	expectList(t, "Users", got, err, nil, api.OK)
}

func TestSlice(t *testing.T) {
	sig := build.Whole()
	for _, x := range []struct{ list, want []int }{
		{nil, nil},
		{[]int{}, nil},
		{[]int{nat}, []int{nat}},
		{[]int{build.Beta}, []int{tm, build.Lambda, build.Apply, step, build.Beta}},
		{[]int{build.Empty, z, build.Empty, s}, []int{nat, z, s, vec, build.Empty}},
		{[]int{build.Each, tm}, []int{nat, z, plus, vec, tm, build.Each}},
		{[]int{ps, nat}, []int{nat, s, plus, ps}},
		{slices.Repeat([]int{tm, nat}, 50000), []int{nat, tm}},
	} {
		slice, old, err := depend.Slice(sig, x.list)
		expectList(t, "Slice", old, err, x.want, api.OK)
		for i, n := range old {
			if len(slice) != len(old) || slice[i].Name != sig[n].Name || slice[i].Implicit != sig[n].Implicit {
				t.Errorf("Slice of %v = %v", x.list, slice)
			}
		}
	}
	var all []int
	for n := range sig {
		all = append(all, len(sig)-1-n)
	}
	slice, old, err := depend.Slice(sig, all)
	if err != api.OK || len(old) != len(sig) || !load.Same(api.Loaded{Sig: slice}, api.Loaded{Sig: sig}) {
		t.Errorf("Slice = %v, %v, %d", slice, old, err)
	}
	if !build.Apart(build.Classes(sig), build.Classes(slice)) {
		t.Error("Slice shares memory")
	}
}

// P12.2: of each rule an example

func TestBelow(t *testing.T) {
	for _, x := range []struct {
		source string
		want   map[int][]int
	}{
		{"a : type.", map[int][]int{0: {0}}},
		{"a : type. b : type.", map[int][]int{0: {0}, 1: {1}}},
		// An object constant: its domains are below its target.
		{"a : type. b : type. k : a -> b.", map[int][]int{0: {0}, 1: {0, 1}}},
		{"a : type. b : type. d : type. k : a -> b. l : b -> d.", map[int][]int{0: {0}, 1: {0, 1}, 2: {0, 1, 2}}},
		{"a : type. b : type. d : type. k : (a -> b) -> d.", map[int][]int{0: {0}, 1: {0, 1}, 2: {0, 1, 2}}},
		{"a : type. b : type. d : type. k : a -> d -> b.", map[int][]int{0: {0}, 1: {0, 1, 2}, 2: {2}}},
		{"a : type. b : type. k : a -> b. l : b -> a.", map[int][]int{0: {0, 1}, 1: {0, 1}}},
		// A family: its domains are below it.
		{"a : type. b : a -> type.", map[int][]int{0: {0}, 1: {0, 1}}},
		{"a : type. b : type. d : (a -> b) -> type.", map[int][]int{0: {0}, 1: {0, 1}, 2: {0, 1, 2}}},
		{"a : type. b : type. d : type. e : ((a -> b) -> d) -> type.", map[int][]int{0: {0}, 1: {0, 1}, 2: {0, 1, 2}, 3: {0, 1, 2, 3}}},
		// A type that stands at a constant, at any depth.
		{"a : type. b : type. d : type. k : (((a -> b) -> d) -> d) -> d.", map[int][]int{0: {0}, 1: {0, 1}, 2: {0, 1, 2}}},
		{"a : type. b : type. d : type. k : d. l : ((((a -> b) -> a) -> a) -> a) -> d.", map[int][]int{0: {0, 1}, 1: {0, 1}, 2: {0, 1, 2}}},
		// Arguments are not domains.
		{"a : type. k : a. b : a -> type. d : type. l : b k -> d.", map[int][]int{0: {0}, 2: {0, 2}, 3: {0, 2, 3}}},
		{"a : type. k : a. b : (a -> a) -> type. d : type. l : b ([x] k).", map[int][]int{0: {0}, 2: {0, 2}, 3: {3}}},
	} {
		expectBelow(t, written.Sig(x.source), x.want)
	}
	expectBelow(t, build.Whole(), map[int][]int{nat: {nat}, plus: {nat, plus}, vec: {nat, plus, vec}, tm: {tm}, step: {tm, step}})
}

// What is no family counts for nothing; what stands within it has targets.
func TestBelowOdd(t *testing.T) {
	for _, x := range odd() {
		expectBelow(t, x.sig, x.below)
	}
}

func TestGroups(t *testing.T) {
	expectGroups(t, "nothing", nil)
	expectGroups(t, "an object of a", written.Sig("a : type. k : a."), []int{0})
	expectGroups(t, "a circle", written.Sig("a : type. b : type. k : a -> b. l : b -> a."), []int{0, 1})
	// The lower ones first; of several ones the one with the smallest family.
	expectGroups(t, "b below a", written.Sig("a : type. b : type. k : b -> a."), []int{1}, []int{0})
	expectGroups(t, "d below a", written.Sig("a : type. b : type. d : type. k : d -> a."), []int{1}, []int{2}, []int{0})
	expectGroups(t, "d below b", written.Sig("a : type. b : type. d : type. k : d -> b."), []int{0}, []int{2}, []int{1})
	// A group that could not come comes as soon as it can.
	expectGroups(t, "e below a", written.Sig("a : type. b : type. d : type. e : type. k : b -> a. l : d -> a."), []int{1}, []int{2}, []int{0}, []int{3})
	expectGroups(t, "circles", written.Sig("a : type. b : type. d : type. e : type. k : a -> d. l : d -> a. m : b -> e. n : e -> b. o : e -> a."), []int{1, 3}, []int{0, 2})
	expectGroups(t, "a circle of three", written.Sig("a : type. b : type. d : type. e : type. k : a -> d. l : d -> e. m : e -> a. o : b -> e."), []int{1}, []int{0, 2, 3})
	expectGroups(t, "Whole", build.Whole(), []int{nat}, []int{plus}, []int{vec}, []int{tm}, []int{step})
}

// flat returns so many families, and so many object constants with one argument: n has the target n, and this domain.
func flat(families, objects int, domain func(n int) int) []api.Decl {
	var sig []api.Decl
	for n := range families {
		sig = append(sig, decl("a"+strconv.Itoa(n), typ()))
	}
	for n := range objects {
		sig = append(sig, decl("k"+strconv.Itoa(n), pi(c(domain(n)), c(n))))
	}
	return sig
}

// P12.2: MaxDecls constants

func TestManyGroups(t *testing.T) {
	const half = api.MaxDecls / 2
	toLast := flat(half, half, func(int) int { return half - 1 })
	want := [][]int{{half - 1}}
	for n := range half - 1 {
		want = append(want, []int{n})
	}
	expectGroups(t, "all above the last one", toLast, want...)
	circle := flat(half, half, func(n int) int { return (n + 1) % half })
	all := make([]int, half)
	for n := range all {
		all[n] = n
	}
	expectGroups(t, "a circle", circle, all)
	line := flat(half, half-1, func(n int) int { return n + 1 })
	slices.Reverse(all)
	var single [][]int
	for _, n := range all {
		single = append(single, []int{n})
	}
	expectGroups(t, "a line", line, single...)
	families := flat(api.MaxDecls, 0, nil)
	got, err := depend.Groups(families)
	if err != api.OK || len(got) != api.MaxDecls || got[99][0] != 99 {
		t.Errorf("Groups = %v, %d", got, err)
	}
	for _, sig := range [][]api.Decl{toLast, circle, line, families} {
		if n, err := check.Signature(sig); n != len(sig) || err != api.OK {
			t.Errorf("Signature = %d, %d", n, err)
		}
	}
}

// P12.3

func TestStrengthen(t *testing.T) {
	sig := build.Whole()
	ctx := []api.Term{c(nat), c(tm), c(plus, v(0), v(5), v(9)), to(c(tm), c(nat)), to(c(nat), c(tm)), c(step), c(vec, c(99), m(7), lam(typ()))}
	for family, want := range map[int][]int{nat: {0, 3}, plus: {0, 2, 3}, vec: {0, 2, 3, 6}, tm: {1, 4}, step: {1, 4, 5}} {
		got, err := depend.Strengthen(sig, ctx, family)
		expectList(t, "Strengthen to "+sig[family].Name, got, err, want, api.OK)
	}
	got, err := depend.Strengthen(sig, nil, nat)
	expectList(t, "Strengthen", got, err, nil, api.OK)
	got, err = depend.Strengthen(sig, build.Nats(api.MaxCtx), step)
	expectList(t, "Strengthen", got, err, nil, api.OK)
	got, err = depend.Strengthen(sig, build.Nats(api.MaxCtx), nat)
	if err != api.OK || len(got) != api.MaxCtx {
		t.Errorf("Strengthen = %v, %d", got, err)
	}
	wrong := [][]api.Term{build.Nats(api.MaxCtx + 1), build.Nats(100000)}
	for _, a := range append(build.Improper(), typ(), to(c(nat), typ()), c(z), c(len(sig)), c(api.MaxN), v(0), m(0), lam(c(nat)), to(c(nat), c(z)), to(c(nat), lam(c(nat))), to(c(nat), v(0), v(0))) {
		wrong = append(wrong, []api.Term{a}, []api.Term{c(nat), a, c(nat)})
	}
	for _, ctx := range wrong {
		for _, n := range []int{nat, z, -1, len(sig)} {
			got, err := depend.Strengthen(sig, ctx, n)
			expectList(t, "Strengthen", got, err, nil, api.ErrArg)
		}
	}
}

// P12.4

func TestHigher(t *testing.T) {
	for source, want := range map[string]bool{
		"a : type.":                                false,
		"a : type. k : a.":                         false,
		"a : type. k : a -> a.":                    false,
		"a : type. k : (a -> a) -> a.":             true,
		"a : type. k : a -> ({x:a} a) -> a.":       true,
		"a : type. k : a. l : a -> (a -> a) -> a.": true,
		// Other constants do not count: those of other families, and families.
		"a : type. b : type. k : (a -> a) -> b. l : b -> a.":    false,
		"a : type. b : (a -> a) -> type. k : b ([x] x) -> a.":   false,
		"a : type. b : ((a -> a) -> a) -> type. k : {x:a} a.":   false,
		"a : type. b : type. k : (b -> b) -> a. l : a -> b.":    true,
		"a : type. b : type. k : (b -> b -> b) -> b -> a -> a.": true,
	} {
		if got, err := depend.Higher(written.Sig(source), 0); got != want || err != api.OK {
			t.Errorf("Higher of %q = %v, %d", source, got, err)
		}
	}
	for family, want := range map[int]bool{nat: false, plus: false, vec: true, tm: true, step: true} {
		if got, err := depend.Higher(build.Whole(), family); got != want || err != api.OK {
			t.Errorf("Higher(%d) = %v, %d", family, got, err)
		}
	}
	sig := written.Sig("a : type. b : (a -> a) -> type. k : b ([x] x).")
	if got, err := depend.Higher(sig, 1); got || err != api.OK {
		t.Errorf("Higher = %v, %d", got, err)
	}
}
