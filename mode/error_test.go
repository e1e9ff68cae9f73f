package mode_test

import (
	"slices"
	"strconv"
	"testing"

	"truss/api"
	"truss/build"
	"truss/load"
	"truss/mode"
	"truss/written"
)

// expectError checks that Check and All have errors for a number.
func expectError(t *testing.T, sig []api.Decl, modes []api.Mode, n int, ofCheck, ofAll api.Errno) {
	t.Helper()
	expectCheck(t, sig, modes, n, 0, 0, ofCheck)
	if got, err := mode.All(sig, modes, n); got != 0 || err != ofAll {
		t.Errorf("All of %d = %d, %d; want error %d", n, got, err, ofAll)
	}
}

// expectArg checks that Check, All and Of have ErrArg.
func expectArg(t *testing.T, sig []api.Decl, modes []api.Mode) {
	t.Helper()
	for _, n := range []int{nat, z, plus, pz, -1, 1000} {
		expectError(t, sig, modes, n, api.ErrArg, api.ErrArg)
		if got, err := mode.Of(sig, modes, n); err != api.ErrArg || !isEmpty(got) {
			t.Errorf("Of %d = %v, %d", n, got, err)
		}
	}
}

// P14.1, P14.2: ErrArg, before all other errors

func TestArguments(t *testing.T) {
	right := []api.Mode{{Family: plus, Signs: []int{in, in, out}}, {Family: nat}}
	for _, sig := range build.Unformed() {
		expectArg(t, sig, nil)
		expectArg(t, sig, right)
	}
	for _, wrong := range notModes() {
		expectArg(t, whole(), []api.Mode{wrong})
		expectArg(t, whole(), append(right[:2:2], wrong))
		expectArg(t, whole(), append([]api.Mode{wrong}, right...))
	}
	expectArg(t, whole(), []api.Mode{{Family: len(whole())}})
	// Two modes of one family.
	expectArg(t, whole(), append(right[:2:2], right[0]))
	expectArg(t, whole(), append(right[:2:2], api.Mode{Family: nat}))
	expectArg(t, whole(), append(right[:2:2], api.Mode{Family: plus, Signs: []int{some, some, some}}))
}

// P14.2: ErrNone, ErrLevel

func TestNumbers(t *testing.T) {
	sig := whole()
	modes := []api.Mode{{Family: plus, Signs: []int{in, in, out}}}
	for _, n := range []int{-1, len(sig), api.MaxDecls, 1 << 62, -1 << 62} {
		expectError(t, sig, modes, n, api.ErrNone, api.ErrNone)
		expectError(t, sig, nil, n, api.ErrNone, api.ErrNone)
	}
	for _, n := range []int{nat, plus, build.Vec, build.Tm, build.Step} {
		expectError(t, sig, modes, n, api.ErrLevel, api.OK)
	}
	for _, n := range []int{z, s, pz, ps, build.Empty, build.Lambda, build.Beta, build.Each} {
		expectError(t, sig, modes, n, api.OK, api.ErrLevel)
	}
	expectError(t, nil, nil, 0, api.ErrNone, api.ErrNone)
}

// MaxModes

func TestMaxModes(t *testing.T) {
	var sig []api.Decl
	var modes []api.Mode
	for n := range api.MaxModes + 1 {
		sig = append(sig, decl("a"+strconv.Itoa(n), typ()))
		modes = append(modes, api.Mode{Family: n})
	}
	sig = append(sig, decl("c", to(c(api.MaxModes-1), c(0))), decl("d", to(c(api.MaxModes), c(1))))
	most := modes[:api.MaxModes]
	expectCheck(t, sig, most, len(sig)-2, 0, 0, api.OK)
	expectCheck(t, sig, most, len(sig)-1, 0, none, api.ErrMode)
	if n, err := mode.All(sig, most, 1); n != len(sig)-1 || err != api.ErrMode {
		t.Errorf("All = %d, %d", n, err)
	}
	if got, err := mode.Of(sig, most, api.MaxModes-1); err != api.OK || !sameMode(got, modes[api.MaxModes-1]) {
		t.Errorf("Of = %v, %d", got, err)
	}
	for _, list := range [][]api.Mode{modes, make([]api.Mode, 100000)} {
		for n := range sig {
			expectError(t, sig, list, n, api.ErrArg, api.ErrArg)
			if got, err := mode.Of(sig, list, n); err != api.ErrArg || !isEmpty(got) {
				t.Errorf("Of = %v, %d", got, err)
			}
		}
	}
}

// Rule 4 of DOC.md

func TestMemory(t *testing.T) {
	sig := written.Sig(numbers)
	x := item("%mode plus +M +N -P.")
	first, _ := mode.Read(sig, x)
	modes := []api.Mode{first}
	again, _ := mode.Of(sig, modes, plus)
	again.Signs[0] = some
	found, _ := mode.Item(sig, first)
	found.Parts[0].Name = "nat"
	args := []api.Term{c(s, v(0)), c(s, c(z)), c(z)}
	inputs, _ := mode.Inputs(first, args)
	if len(inputs) != 2 || !build.Apart(args, inputs) {
		t.Error("inputs share memory with each other or with arguments")
	}
	inputs[0].N = 7
	mode.Check(sig, modes, ps)
	mode.All(sig, modes, plus)
	if !slices.Equal(first.Signs, []int{in, in, out}) || args[0].N != s || x.Parts[0].Name != "plus" {
		t.Error("memory is shared")
	}
	if !load.Same(api.Loaded{Sig: sig}, api.Loaded{Sig: written.Sig(numbers)}) {
		t.Error("an argument has changed")
	}
}
