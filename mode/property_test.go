package mode_test

import (
	"slices"
	"strings"
	"testing"

	"truss/api"
	"truss/build"
	"truss/maker"
	"truss/meta"
	"truss/mode"
	"truss/search"
	"truss/sign"
	"truss/term"
	"truss/written"
)

// closed returns closed objects of a family without arguments.
func closed(t *testing.T, sig []api.Decl, family int) []api.Term {
	t.Helper()
	found, err := search.Solve(sig, nil, nil, c(family), 4, 12)
	if err != api.OK || len(found.List) == 0 {
		t.Fatalf("Solve of %s = %v, %d", sig[family].Name, found, err)
	}
	var list []api.Term
	for _, x := range found.List {
		list = append(list, x.Proof)
	}
	return list
}

// areWellModed reports whether all constants of the families that have modes are well moded.
func areWellModed(sig []api.Decl, modes []api.Mode) bool {
	isWrong := func(m api.Mode) bool {
		_, err := mode.All(sig, modes, m.Family)
		return err != api.OK
	}
	return !slices.ContainsFunc(modes, isWrong)
}

// P14.4: known inputs make known outputs

func TestOutputs(t *testing.T) {
	w := writer{maker.New(nil)}
	typing := strings.Replace(lambdas, "oflam : of (lam [x] E x) (arr A B) <- ({x:tm} of x A -> of (E x) B). ", "offun : of (fun A [x] E x) (arr A B) <- ({x:tm} of x A -> of (E x) B). ", 1) +
		"c : tm. ofc : of c one. size : tm -> nat -> type. sc : size c (s z). sapp : size (app M N) P <- size M A <- size N B <- plus A B P. sfun : size (fun A E) (s N) <- ({x:tm} size x z -> size (E x) N). "
	source := numbers + "times : nat -> nat -> nat -> type. tz : times z N z. ts : times (s M) N Q <- times M N P <- plus P N Q. " +
		"le : nat -> nat -> type. lz : le z N. ls : le (s M) (s N) <- le M N. even : nat -> nat -> type. ez : even z z. es : even (s (s N)) (s M) <- even N M. " + typing
	solved, right := 0, map[int]int{}
	sig := written.Sig(source)
	var families []int
	for _, name := range []string{"plus", "times", "le", "even", "of", "size"} {
		families = append(families, written.Constant(sig, name))
	}
	for range 6000 {
		var modes []api.Mode
		for _, family := range families {
			domains, _, _ := term.Split(sig[family].Class)
			x := api.Mode{Family: family}
			for range domains {
				x.Signs = append(x.Signs, 1+w.Below(2+w.Below(2)))
			}
			if w.Below(2) == 0 {
				modes = append(modes, x)
			}
		}
		if len(modes) == 0 || !areWellModed(sig, modes) {
			continue
		}
		x := modes[w.Below(len(modes))]
		right[x.Family]++
		solved += expectOutputs(t, sig, x, w)
	}
	if solved < 500 || len(right) < 5 {
		t.Errorf("only %d solutions, of %v", solved, right)
	}
}

// expectOutputs checks the solutions of a goal of a family that has known inputs, and returns how many there are.
func expectOutputs(t *testing.T, sig []api.Decl, x api.Mode, w writer) int {
	t.Helper()
	domains, _, _ := term.Split(sig[x.Family].Class)
	goal := c(x.Family)
	var metas []api.Meta
	for i, domain := range domains {
		if list := closed(t, sig, domain.N); x.Signs[i] == in {
			goal.Args = append(goal.Args, list[w.Below(len(list))])
			continue
		}
		goal.Args = append(goal.Args, m(len(metas)))
		metas = append(metas, build.Hole(domain))
	}
	found, err := search.Solve(sig, metas, nil, goal, 4, 12)
	if err != api.OK || found.Stuck > 0 {
		return 0
	}
	for _, solution := range found.List {
		for i, arg := range goal.Args {
			value, err := meta.Resolve(solution.Metas, arg)
			if left, _ := term.Metas(value); err != api.OK || x.Signs[i] == out && len(left) > 0 {
				t.Errorf("%v of %v, with the mode %v, is solved by %v", arg, goal, x, value)
			}
		}
	}
	return len(found.List)
}

// P14.5: a further input makes no constant ill moded by its inputs

func TestFurtherInput(t *testing.T) {
	w := writer{maker.New(nil)}
	count := 0
	for range 20000 {
		sig := whole()
		class, ok := w.rule(sig)
		if !ok {
			continue
		}
		sig = append(sig, decl("k", class))
		target, _ := sign.Target(sig, len(sig)-1)
		modes := w.modes(sig)
		at := slices.IndexFunc(modes, func(x api.Mode) bool { return x.Family == target })
		domains, _, _ := term.Split(class)
		contains := func(a api.Term) bool {
			list, _ := term.Constants(a)
			return slices.Contains(list, target)
		}
		if at < 0 || slices.ContainsFunc(domains, contains) {
			continue
		}
		i := slices.Index(modes[at].Signs, out)
		if _, _, err := mode.Check(sig, modes, len(sig)-1); i < 0 || err != api.OK {
			continue
		}
		modes[at].Signs[i] = in
		expectCheck(t, sig, modes, len(sig)-1, 0, 0, api.OK)
		count++
	}
	if count < 300 {
		t.Errorf("only %d constants", count)
	}
}

// P14.5: a strict variable is free in the object

func TestStrictIsFree(t *testing.T) {
	w := writer{maker.New([]api.Meta{build.Hole(c(nat))})}
	count := 0
	for range 20000 {
		ctx := w.Context(4)
		x, _, ok := w.Head(ctx, 4)
		if !ok {
			continue
		}
		if y := w.Spoiled(x); w.Below(2) == 0 && term.Check(y) == api.OK {
			x = y
		}
		fixed := w.Below(3)
		got, err := mode.Strict(x, fixed)
		free, _ := term.Free(x)
		isOpen := func(n int) bool { return n >= fixed }
		var want []int
		for _, n := range free {
			if isOpen(n) && isStrict(x, n, 0, isOpen) {
				want = append(want, n)
			}
		}
		if err != api.OK || !slices.Equal(got, want) {
			t.Errorf("Strict of %v = %v, %d; want %v", x, got, err, want)
		}
		count += len(got)
	}
	if count < 2000 {
		t.Errorf("only %d variables", count)
	}
}

// P14.5: Read of Item is the mode, if a directive has it

func TestReadOfItem(t *testing.T) {
	w := writer{maker.New(nil)}
	sig := written.Sig(numbers + "vec : nat -> type. eq : vec N -> vec N -> type. sum : {a:vec N} {b:vec M} plus N M P -> vec P -> type. far : {p:plus N N N} vec M -> type.")
	right, wrong := 0, 0
	for range 3000 {
		for _, x := range w.modes(sig) {
			directive, err := mode.Item(sig, x)
			if err == api.ErrArg {
				wrong++
				continue
			}
			got, readErr := mode.Read(sig, directive)
			if err != api.OK || readErr != api.OK || !sameMode(got, x) {
				t.Errorf("Read of Item of %v = %v, %d, %d", x, got, err, readErr)
			}
			right++
		}
	}
	if right < 3000 || wrong < 300 {
		t.Errorf("only %d are right, %d wrong", right, wrong)
	}
}
