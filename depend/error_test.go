package depend_test

import (
	"testing"

	"truss/api"
	"truss/build"
	"truss/depend"
	"truss/load"
)

// expectErrors checks that all functions have an error for a constant and for a family.
func expectErrors(t *testing.T, sig []api.Decl, n int, ofConstant, ofFamily api.Errno) {
	t.Helper()
	list, err := depend.Needs(sig, n)
	expectList(t, "Needs", list, err, nil, ofConstant)
	list, err = depend.Users(sig, n)
	expectList(t, "Users", list, err, nil, ofConstant)
	for _, others := range [][]int{{n}, {0, n}, {n, 0}} {
		slice, old, err := depend.Slice(sig, others)
		expectList(t, "Slice", old, err, nil, ofConstant)
		if len(slice) > 0 {
			t.Errorf("Slice = %v", slice)
		}
	}
	for _, pair := range [][2]int{{n, 0}, {0, n}, {n, n}} {
		if ok, err := depend.Below(sig, pair[0], pair[1]); ok || err != ofFamily {
			t.Errorf("Below%v = %v, %d; want error %d", pair, ok, err, ofFamily)
		}
	}
	list, err = depend.Strengthen(sig, nil, n)
	expectList(t, "Strengthen", list, err, nil, ofFamily)
	list, err = depend.Strengthen(sig, build.Nats(1), n)
	expectList(t, "Strengthen", list, err, nil, ofFamily)
	if ok, err := depend.Higher(sig, n); ok || err != ofFamily {
		t.Errorf("Higher = %v, %d; want error %d", ok, err, ofFamily)
	}
}

// P12.1 to P12.4: ErrNone

func TestNone(t *testing.T) {
	sig := build.Whole()
	for _, n := range []int{-1, len(sig), len(sig) + 1, api.MaxDecls, api.MaxN + 1, 1 << 62, -1 << 62} {
		expectErrors(t, sig, n, api.ErrNone, api.ErrNone)
		// Before ErrLevel, wherever it stands.
		for _, pair := range [][2]int{{n, z}, {z, n}} {
			if ok, err := depend.Below(sig, pair[0], pair[1]); ok || err != api.ErrNone {
				t.Errorf("Below%v = %v, %d", pair, ok, err)
			}
		}
	}
	if ok, err := depend.Below(nil, 0, 0); ok || err != api.ErrNone {
		t.Errorf("Below = %v, %d", ok, err)
	}
}

// P12.2 to P12.4: ErrLevel

func TestLevel(t *testing.T) {
	sig := build.Whole()
	for n := range sig {
		if n == nat || n == plus || n == vec || n == tm || n == step {
			continue
		}
		for _, pair := range [][2]int{{n, nat}, {nat, n}, {n, n}} {
			if ok, err := depend.Below(sig, pair[0], pair[1]); ok || err != api.ErrLevel {
				t.Errorf("Below%v = %v, %d", pair, ok, err)
			}
		}
		list, err := depend.Strengthen(sig, build.Nats(2), n)
		expectList(t, "Strengthen", list, err, nil, api.ErrLevel)
		if ok, err := depend.Higher(sig, n); ok || err != api.ErrLevel {
			t.Errorf("Higher = %v, %d", ok, err)
		}
	}
}

// P12.1 to P12.4: ErrArg, before all other errors

func TestUnformed(t *testing.T) {
	for _, sig := range build.Unformed() {
		for _, n := range []int{0, 1, -1, 1000} {
			expectErrors(t, sig, n, api.ErrArg, api.ErrArg)
		}
		if table, err := depend.Table(sig); len(table) > 0 || err != api.ErrArg {
			t.Errorf("Table = %v, %d", table, err)
		}
		if groups, err := depend.Groups(sig); len(groups) > 0 || err != api.ErrArg {
			t.Errorf("Groups = %v, %d", groups, err)
		}
		slice, old, err := depend.Slice(sig, nil)
		if len(slice) > 0 || len(old) > 0 || err != api.ErrArg {
			t.Errorf("Slice = %v, %v, %d", slice, old, err)
		}
	}
	if table, err := depend.Table(nil); len(table) > 0 || err != api.OK {
		t.Errorf("Table = %v, %d", table, err)
	}
}

// Rule 4 of DOC.md

func TestMemory(t *testing.T) {
	sig := build.Whole()
	list := []int{build.Beta, ps, z}
	ctx := build.Nats(3)
	slice, old, _ := depend.Slice(sig, list)
	table, _ := depend.Table(sig)
	groups, _ := depend.Groups(sig)
	for n := range slice {
		slice[n].Name = "changed"
		old[n] = -1
	}
	for _, lists := range [][][]int{table, groups} {
		for _, numbers := range lists {
			for i := range numbers {
				if numbers[i] < 0 {
					t.Errorf("memory is shared in %v", lists)
				}
				numbers[i] = -1
			}
		}
	}
	depend.Strengthen(sig, ctx, nat)
	if !load.Same(api.Loaded{Sig: sig}, api.Loaded{Sig: build.Whole()}) || list[0] != build.Beta || list[2] != z || len(ctx[1].Args) > 0 {
		t.Error("an argument has changed")
	}
	if again, err := depend.Groups(sig); err != api.OK || len(again) != 5 || again[0][0] != nat {
		t.Errorf("Groups = %v, %d", again, err)
	}
}
