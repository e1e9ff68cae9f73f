package sign_test

import (
	"math"
	"slices"
	"strings"
	"testing"

	"truss/api"
	"truss/build"
	"truss/sign"
)

// noConstants returns numbers that no constant of a signature has.
func noConstants(sig []api.Decl) []int {
	return []int{-1, len(sig), len(sig) + 1, api.MaxN, math.MaxInt, math.MinInt}
}

// P5.1: what is formed

func TestCheck(t *testing.T) {
	for name, sig := range map[string][]api.Decl{
		"nil":              nil,
		"empty":            {},
		"numbers":          numbers(),
		"steps":            steps(),
		"100 constants":    many(api.MaxDecls),
		"longest name":     {decl(strings.Repeat("a", api.MaxName), typ())},
		"name with others": {decl("a'_9Z", typ()), decl("types", typ()), decl("typE", c(0))},
		"Implicit 0 of 2":  {decl("a", typ()), decl("b", to(c(0), c(0), typ()))},
		"Implicit 2 of 2":  {decl("a", typ()), implicit(2, decl("b", to(c(0), c(0), typ())))},
		"Implicit 1 of 1":  {decl("a", typ()), implicit(1, decl("b", to(to(c(0), c(0)), c(0))))},
	} {
		if err := sign.Check(sig); err != api.OK {
			t.Errorf("%s: error %d", name, err)
		}
	}
	for name, class := range classes() {
		if err := sign.Check(append(numbers(), decl("k", class))); err != api.OK {
			t.Errorf("class %s: error %d", name, err)
		}
	}
}

// P5.1 to P5.3: ErrArg of all functions, before all other errors

func TestUnformed(t *testing.T) {
	for name, sig := range unformed() {
		t.Run(name, func(t *testing.T) {
			if err := sign.Check(sig); err != api.ErrArg {
				t.Errorf("Check: error %d", err)
			}
			for _, sought := range []string{"nat", "none", ""} {
				if n, err := sign.Find(sig, sought); n != 0 || err != api.ErrArg {
					t.Errorf("Find = %d, %d", n, err)
				}
			}
			for _, x := range []api.Term{c(nat), c(api.MaxN), {}, lam(typ())} {
				if n, err := sign.Level(sig, x); n != 0 || err != api.ErrArg {
					t.Errorf("Level = %d, %d", n, err)
				}
			}
			for _, d := range []api.Decl{decl("new", c(nat)), decl("nat", c(nat)), decl("A", api.Term{})} {
				got, err := sign.Add(sig, d)
				check(t, "Add", got, err, nil, api.ErrArg)
			}
			for _, n := range []int{0, 1, 2, -1, math.MaxInt} {
				checkUnformed(t, sig, n)
			}
		})
	}
}

func checkUnformed(t *testing.T, sig []api.Decl, n int) {
	t.Helper()
	if is, err := sign.IsFamily(sig, n); is || err != api.ErrArg {
		t.Errorf("IsFamily = %t, %d", is, err)
	}
	if target, err := sign.Target(sig, n); target != 0 || err != api.ErrArg {
		t.Errorf("Target = %d, %d", target, err)
	}
	if list, err := sign.Of(sig, n); len(list) != 0 || err != api.ErrArg {
		t.Errorf("Of = %v, %d", list, err)
	}
	for _, name := range []string{"new", "nat", "Nat"} {
		got, err := sign.Rename(sig, n, name)
		check(t, "Rename", got, err, nil, api.ErrArg)
	}
	got, err := sign.Swap(sig, n)
	check(t, "Swap", got, err, nil, api.ErrArg)
	got, err = sign.Without(sig, n)
	check(t, "Without", got, err, nil, api.ErrArg)
}

// P5.1 to P5.3: ErrNone for a number that no constant has, before the other errors

func TestNoConstant(t *testing.T) {
	for _, sig := range [][]api.Decl{nil, numbers(), steps(), many(api.MaxDecls)} {
		for _, n := range noConstants(sig) {
			if is, err := sign.IsFamily(sig, n); is || err != api.ErrNone {
				t.Errorf("IsFamily(%d) = %t, %d", n, is, err)
			}
			if target, err := sign.Target(sig, n); target != 0 || err != api.ErrNone {
				t.Errorf("Target(%d) = %d, %d", n, target, err)
			}
			if list, err := sign.Of(sig, n); len(list) != 0 || err != api.ErrNone {
				t.Errorf("Of(%d) = %v, %d", n, list, err)
			}
			for _, name := range []string{"new", "z", "lam", "A", ""} {
				got, err := sign.Rename(sig, n, name)
				check(t, "Rename", got, err, nil, api.ErrNone)
			}
			got, err := sign.Swap(sig, n)
			check(t, "Swap", got, err, nil, api.ErrNone)
			got, err = sign.Without(sig, n)
			check(t, "Without", got, err, nil, api.ErrNone)
		}
	}
}

// P5.1

func TestFind(t *testing.T) {
	for _, sig := range [][]api.Decl{numbers(), steps(), many(api.MaxDecls)} {
		for want, d := range sig {
			if n, err := sign.Find(sig, d.Name); n != want || err != api.OK {
				t.Errorf("Find(%s) = %d, %d", d.Name, n, err)
			}
		}
		for _, name := range append(wrongNames(), "zz", "S", "plu", "pluss", "a0", "x100") {
			if n, err := sign.Find(sig, name); n != 0 || err != api.ErrNone {
				t.Errorf("Find(%.20s) = %d, %d", name, n, err)
			}
		}
	}
	if n, err := sign.Find(nil, "a"); n != 0 || err != api.ErrNone {
		t.Errorf("Find = %d, %d", n, err)
	}
}

func TestFamilies(t *testing.T) {
	for _, x := range []struct {
		sig     []api.Decl
		targets []int
		of      map[int][]int
	}{
		{numbers(), []int{nat, nat, nat, plus, plus, plus}, map[int][]int{nat: {z, s}, plus: {pz, ps}}},
		{steps(), []int{0, 0, 0, 3, 3}, map[int][]int{0: {1, 2}, 3: {4}}},
		{[]api.Decl{decl("a", typ()), decl("b", pi(c(0), typ())), decl("c", typ()), decl("x", to(c(2), c(0), c(1))), decl("y", c(0)), decl("w", to(c(0), c(0)))}, []int{0, 1, 2, 1, 0, 0}, map[int][]int{0: {4, 5}, 1: {3}, 2: nil}},
	} {
		for n, want := range x.targets {
			if target, err := sign.Target(x.sig, n); target != want || err != api.OK {
				t.Errorf("Target(%d) = %d, %d; want %d", n, target, err, want)
			}
			_, isFamily := x.of[n]
			if is, err := sign.IsFamily(x.sig, n); is != isFamily || err != api.OK {
				t.Errorf("IsFamily(%d) = %t, %d; want %t", n, is, err, isFamily)
			}
			list, err := sign.Of(x.sig, n)
			if isFamily && (err != api.OK || !slices.Equal(list, x.of[n])) {
				t.Errorf("Of(%d) = %v, %d; want %v", n, list, err, x.of[n])
			}
			if !isFamily && (err != api.ErrLevel || len(list) != 0) {
				t.Errorf("Of(%d) = %v, %d; want ErrLevel", n, list, err)
			}
		}
	}
}

// P5.4

func TestEveryObjectIsOfItsTargetAlone(t *testing.T) {
	for _, sig := range [][]api.Decl{numbers(), steps(), many(30)} {
		found := map[int]int{}
		for n := range sig {
			list, _ := sign.Of(sig, n)
			for _, object := range list {
				if target, _ := sign.Target(sig, object); target != n {
					t.Errorf("%d is in Of(%d), but has the target %d", object, n, target)
				}
				found[object]++
			}
		}
		for n := range sig {
			want := 1
			if is, _ := sign.IsFamily(sig, n); is {
				want = 0
			}
			if found[n] != want {
				t.Errorf("%d is in %d lists", n, found[n])
			}
		}
	}
}

// P5.2

func TestLevel(t *testing.T) {
	const kind, class, object = 1, 2, 3
	check := func(x api.Term, want int, wantErr api.Errno) {
		t.Helper()
		if level, err := sign.Level(numbers(), x); level != want || err != wantErr {
			t.Errorf("Level(%v) = %d, %d; want %d, %d", x, level, err, want, wantErr)
		}
	}
	check(typ(), kind, api.OK)
	check(pi(c(nat), typ()), kind, api.OK)
	check(to(c(nat), c(nat), c(nat), typ()), kind, api.OK)
	check(c(nat), class, api.OK)
	check(c(plus, c(z), c(z), c(z)), class, api.OK)
	check(pi(c(nat), c(plus, v(0), v(0), v(0))), class, api.OK)
	check(c(s, c(z)), object, api.OK)
	check(c(ps), object, api.OK)
	check(v(0), object, api.OK)
	check(v(api.MaxN, c(z)), object, api.OK)
	check(meta(nat), object, api.OK)
	check(lam(v(0)), object, api.OK)
	check(lam(lam(c(s, v(0)))), object, api.OK)

	// Domains and spines decide nothing, and the number of arguments neither.
	check(pi(typ(), typ()), kind, api.OK)
	check(pi(c(z), c(nat)), class, api.OK)
	check(pi(lam(typ()), c(plus)), class, api.OK)
	check(c(nat, typ(), pi(c(z), c(z))), class, api.OK)
	check(c(z, c(nat), typ()), object, api.OK)
	check(v(0, lam(c(nat))), object, api.OK)

	check(pi(c(nat), c(z)), 0, api.ErrLevel)
	check(pi(c(nat), v(0)), 0, api.ErrLevel)
	check(pi(c(nat), meta(0)), 0, api.ErrLevel)
	check(pi(c(nat), lam(v(0))), 0, api.ErrLevel)
	check(lam(typ()), 0, api.ErrLevel)
	check(lam(c(nat)), 0, api.ErrLevel)
	check(lam(pi(c(nat), c(nat))), 0, api.ErrLevel)
	check(pi(c(nat), pi(c(nat), c(z))), 0, api.ErrLevel)

	// A constant that is not there, wherever it is, and before ErrLevel.
	last := len(numbers()) - 1
	check(c(last), object, api.OK)
	check(c(last+1), 0, api.ErrScope)
	check(c(api.MaxN), 0, api.ErrScope)
	check(c(nat, c(last+1)), 0, api.ErrScope)
	check(pi(c(last+1), typ()), 0, api.ErrScope)
	check(lam(c(nat, lam(c(last+1)))), 0, api.ErrScope)
	check(v(last+1, meta(last+1)), object, api.OK)

	for i, x := range append(build.Improper(), c(last+1, v(-1)), broad(api.MaxNodes+1), tower(api.MaxDepth+1)) {
		if level, err := sign.Level(numbers(), x); level != 0 || err != api.ErrArg {
			t.Errorf("Level of what is not proper, %d: %d, %d", i, level, err)
		}
	}
	if level, err := sign.Level(nil, c(0)); level != 0 || err != api.ErrScope {
		t.Errorf("Level = %d, %d", level, err)
	}
	if level, err := sign.Level(nil, lam(v(3))); level != object || err != api.OK {
		t.Errorf("Level = %d, %d", level, err)
	}
}
