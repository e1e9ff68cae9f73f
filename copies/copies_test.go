package copies_test

import (
	"slices"
	"testing"

	"truss/api"
	"truss/build"
	"truss/copies"
	"truss/syntax"
	"truss/term"
)

// P5.3, P12.1: other numbers of constants

func TestRenumbered(t *testing.T) {
	sig := build.Whole()
	moved := copies.Renumbered(sig, func(constant int) int { return constant + 10 })
	back := copies.Renumbered(moved, func(constant int) int { return constant - 10 })
	want := build.Pi(build.Con(10), build.Con(13, build.Con(11), build.Var(0), build.Var(0)))
	if len(moved) != len(sig) || !term.Same(moved[build.Pz].Class, want) {
		t.Errorf("Renumbered = %v", moved)
	}
	for n, d := range back {
		if d.Name != sig[n].Name || d.Implicit != sig[n].Implicit || !term.Same(d.Class, sig[n].Class) {
			t.Errorf("Renumbered back = %v", d)
		}
	}
}

// Rule 4 of DOC.md: copies are equal, and share no memory

func TestSig(t *testing.T) {
	sig := build.Whole()
	copied := copies.Sig(sig)
	for n, d := range copied {
		if d.Name != sig[n].Name || d.Implicit != sig[n].Implicit || !term.Same(d.Class, sig[n].Class) || !term.Same(copies.Term(d.Class), d.Class) {
			t.Errorf("Sig = %v", d)
		}
	}
	if len(copied) != len(sig) || !build.Apart(build.Classes(sig), build.Classes(copied)) {
		t.Error("Sig shares memory")
	}
	x := build.Lam(build.Meta(1, build.Var(0), build.Con(2)))
	y := copies.Term(x)
	if !term.Same(x, y) || !build.Apart([]api.Term{x}, []api.Term{y}) {
		t.Errorf("Term = %v", y)
	}
}

func TestItem(t *testing.T) {
	list, _, _ := syntax.Items("a : {x:b} c [y] d. %w 1 + N {A B [C]} {N : a b} | (a -> b).")
	for _, x := range list {
		y := copies.Item(x)
		before, _ := syntax.TextItem(x)
		if text, err := syntax.TextItem(y); text != before || err != api.OK {
			t.Errorf("Item = %q, %d", text, err)
		}
		if len(y.Raw.Args) > 0 {
			y.Raw.Args[0].Name = "k"
			y.Raw.Args[1].Args[1].Args[1].Name = "k"
		}
		if len(y.Parts) > 0 {
			y.Parts[2].Parts[2].Parts[0].Name = "K"
			y.Parts[2].Parts[0].Name = "K"
			y.Parts[3].Raw.Args[0].Name = "k"
			y.Parts[5].Raw.Args[0].Name = "k"
			y.Parts[4].Sign = "="
		}
		if text, _ := syntax.TextItem(x); text != before {
			t.Errorf("Item shares memory: %q", text)
		}
		if text, err := syntax.TextItem(y); text == before || err != api.OK {
			t.Errorf("Item = %q, %d", text, err)
		}
	}
	if x := copies.Item(api.Item{Word: "w", Parts: slices.Repeat([]api.Part{{Op: api.PName, Name: "a"}}, 3)}); len(x.Parts) != 3 {
		t.Errorf("Item = %v", x)
	}
}
