package sign_test

import (
	"slices"
	"strings"
	"testing"

	"truss/api"
	"truss/sign"
)

// P5.3: adding

func TestAdd(t *testing.T) {
	for name, class := range classes() {
		d := decl("k", class)
		got, err := sign.Add(numbers(), d)
		check(t, "Add of "+name, got, err, append(numbers(), d), api.OK)
	}
	for _, d := range []api.Decl{decl(strings.Repeat("k", api.MaxName), typ()), decl("typ", typ()), implicit(2, decl("k", to(typ(), c(nat), c(nat))))} {
		got, err := sign.Add(numbers(), d)
		check(t, "Add", got, err, append(numbers(), d), api.OK)
	}
	got, err := sign.Add(nil, decl("a", typ()))
	check(t, "Add", got, err, []api.Decl{decl("a", typ())}, api.OK)
	got, err = sign.Add(many(api.MaxDecls-1), many(api.MaxDecls)[api.MaxDecls-1])
	check(t, "Add", got, err, many(api.MaxDecls), api.OK)
}

func TestAddErrors(t *testing.T) {
	fails := func(sig []api.Decl, d api.Decl, want api.Errno) {
		t.Helper()
		got, err := sign.Add(sig, d)
		check(t, "Add", got, err, nil, want)
	}
	for _, class := range wrongClasses() {
		fails(numbers(), decl("k", class), api.ErrArg)
		fails(numbers(), decl("pz", class), api.ErrTwice)
		fails(many(api.MaxDecls), decl("k", class), api.ErrFull)
	}
	for _, name := range wrongNames() {
		fails(numbers(), decl(name, c(nat)), api.ErrArg)
		fails(many(api.MaxDecls), decl(name, c(nat)), api.ErrFull)
	}
	for _, n := range []int{-1, 3} {
		fails(numbers(), implicit(n, decl("k", to(c(nat), c(nat), c(nat)))), api.ErrArg)
	}
	for _, d := range numbers() {
		fails(numbers(), d, api.ErrTwice)
	}
	fails(many(api.MaxDecls), decl("k", c(0)), api.ErrFull)
	fails(many(api.MaxDecls), decl("a", c(0)), api.ErrTwice)
	fails(many(api.MaxDecls), decl("x99", api.Term{}), api.ErrTwice)
	fails(nil, decl("a", c(0)), api.ErrArg)
}

// P5.3: renaming

func TestRename(t *testing.T) {
	for n := range numbers() {
		for _, name := range []string{"k", strings.Repeat("k", api.MaxName), "lam", "typ", "x1'"} {
			want := numbers()
			want[n].Name = name
			got, err := sign.Rename(numbers(), n, name)
			check(t, "Rename", got, err, want, api.OK)
		}
		for other, d := range numbers() {
			got, err := sign.Rename(numbers(), n, d.Name)
			if n == other {
				check(t, "Rename to its own name", got, err, numbers(), api.OK)
			} else {
				check(t, "Rename", got, err, nil, api.ErrTwice)
			}
		}
		for _, name := range wrongNames() {
			got, err := sign.Rename(numbers(), n, name)
			check(t, "Rename", got, err, nil, api.ErrArg)
		}
	}
}

// P5.3: exchanging

func TestSwap(t *testing.T) {
	got, err := sign.Swap(numbers(), z)
	want := []api.Decl{
		decl("nat", typ()),
		decl("s", to(c(nat), c(nat))),
		decl("z", c(nat)),
		decl("plus", to(c(nat), c(nat), c(nat), typ())),
		implicit(1, decl("pz", pi(c(nat), c(plus, c(2), v(0), v(0))))),
		implicit(3, decl("ps", to(c(nat), c(nat), c(nat), c(plus, v(2), v(1), v(0)), c(plus, c(1, v(3)), v(2), c(1, v(1)))))),
	}
	check(t, "Swap", got, err, want, api.OK)

	// A family changes its place, too.
	got, err = sign.Swap(numbers(), s)
	if err != api.OK || got[s].Name != "plus" || got[plus].Name != "s" {
		t.Errorf("Swap = %v, %d", got, err)
	}
	if list, _ := sign.Of(got, s); !slices.Equal(list, []int{pz, ps}) {
		t.Errorf("Of = %v", list)
	}
	got, err = sign.Swap(many(api.MaxDecls), api.MaxDecls-2)
	if err != api.OK || got[api.MaxDecls-1].Name != "x98" || got[api.MaxDecls-2].Name != "x99" {
		t.Errorf("Swap = %v, %d", got, err)
	}
}

func TestSwapErrors(t *testing.T) {
	for n, want := range []api.Errno{api.ErrScope, api.OK, api.OK, api.ErrScope, api.OK, api.ErrNone} {
		if _, err := sign.Swap(numbers(), n); err != want {
			t.Errorf("Swap(%d): error %d, want %d", n, err, want)
		}
	}
	for _, class := range []api.Term{pi(c(1), c(0)), c(0, c(0), lam(c(1)))} {
		got, err := sign.Swap([]api.Decl{decl("a", typ()), decl("b", c(0)), decl("k", class)}, 1)
		check(t, "Swap", got, err, nil, api.ErrScope)
	}
	// The numbers of variables are no numbers of constants.
	sig := []api.Decl{decl("a", typ()), decl("b", c(0)), decl("k", to(c(0), c(0), c(0, v(1))))}
	if _, err := sign.Swap(sig, 1); err != api.OK {
		t.Errorf("Swap: error %d", err)
	}
	got, err := sign.Swap(many(1), 0)
	check(t, "Swap", got, err, nil, api.ErrNone)
}

// P5.3: removing

func TestWithout(t *testing.T) {
	got, err := sign.Without(numbers(), s)
	check(t, "Without", got, err, nil, api.ErrScope)
	got, err = sign.Without(numbers()[:ps], s)
	want := []api.Decl{
		decl("nat", typ()),
		decl("z", c(nat)),
		decl("plus", to(c(nat), c(nat), c(nat), typ())),
		implicit(1, decl("pz", pi(c(nat), c(2, c(z), v(0), v(0))))),
	}
	check(t, "Without", got, err, want, api.OK)
	for n, want := range []api.Errno{api.ErrScope, api.ErrScope, api.ErrScope, api.ErrScope, api.OK, api.OK} {
		if _, err := sign.Without(numbers(), n); err != want {
			t.Errorf("Without(%d): error %d, want %d", n, err, want)
		}
	}
	got, err = sign.Without(many(1), 0)
	check(t, "Without", got, err, nil, api.OK)
	got, err = sign.Without(many(api.MaxDecls), 1)
	if err != api.OK || len(got) != api.MaxDecls-1 || got[1].Name != "x2" {
		t.Errorf("Without = %v, %d", got, err)
	}
	sig := []api.Decl{decl("a", typ()), decl("b", c(0)), decl("k", to(c(0), c(0, v(0), lam(c(1)))))}
	got, err = sign.Without(sig, 1)
	check(t, "Without", got, err, nil, api.ErrScope)
}

// P5.4

func TestThereAndBack(t *testing.T) {
	for _, sig := range [][]api.Decl{numbers(), steps(), many(api.MaxDecls - 1)} {
		for n := range sig {
			swapped, err := sign.Swap(sig, n)
			if err != api.OK {
				continue
			}
			if sign.Check(swapped) != api.OK {
				t.Errorf("Swap(%d) is not formed: %v", n, swapped)
			}
			got, err := sign.Swap(swapped, n)
			check(t, "Swap of Swap", got, err, sig, api.OK)
		}
		for _, class := range []api.Term{typ(), c(0), pi(c(0), c(0))} {
			longer, err := sign.Add(sig, decl("new", class))
			if err != api.OK {
				t.Errorf("Add: error %d", err)
			}
			got, err := sign.Without(longer, len(sig))
			check(t, "Without of Add", got, err, sig, api.OK)
		}
		for n, d := range sig {
			renamed, err := sign.Rename(sig, n, "new")
			if found, _ := sign.Find(renamed, "new"); err != api.OK || found != n {
				t.Errorf("Find of Rename(%d) = %d, %d", n, found, err)
			}
			got, err := sign.Rename(renamed, n, d.Name)
			check(t, "Rename of Rename", got, err, sig, api.OK)
		}
	}
}

// Without keeps what is formed formed, whatever is removed.
func TestWithoutIsFormed(t *testing.T) {
	sig := numbers()
	for len(sig) > 0 {
		fewer := 0
		for n := range sig {
			got, err := sign.Without(sig, n)
			if err != api.OK {
				continue
			}
			fewer++
			if sign.Check(got) != api.OK || len(got) != len(sig)-1 {
				t.Errorf("Without(%d) = %v", n, got)
			}
		}
		if fewer == 0 {
			t.Fatalf("nothing can be removed: %v", sig)
		}
		sig, _ = sign.Without(sig, len(sig)-1)
	}
}

// Rule 4 of DOC.md

func TestNewMemory(t *testing.T) {
	class := pi(c(nat), c(plus, v(0), v(0), c(z)))
	checkNew(t, func(sig []api.Decl) ([]api.Decl, api.Errno) { return sign.Add(sig, decl("k", class)) })
	checkNew(t, func(sig []api.Decl) ([]api.Decl, api.Errno) { return sign.Rename(sig, ps, "k") })
	checkNew(t, func(sig []api.Decl) ([]api.Decl, api.Errno) { return sign.Rename(sig, ps, "ps") })
	checkNew(t, func(sig []api.Decl) ([]api.Decl, api.Errno) { return sign.Swap(sig, pz) })
	checkNew(t, func(sig []api.Decl) ([]api.Decl, api.Errno) { return sign.Without(sig, pz) })
	sig, _ := sign.Add(numbers(), decl("k", class))
	sig[len(sig)-1].Class.Args[0].N = ps
	if class.Args[0].N != nat {
		t.Errorf("Add keeps the class that it is given")
	}
}
