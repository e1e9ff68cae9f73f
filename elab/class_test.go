package elab_test

import (
	"strconv"
	"testing"

	"truss/api"
	"truss/build"
	"truss/check"
	"truss/elab"
	"truss/term"
)

// P10.1: the examples of the chapter

func TestExamples(t *testing.T) {
	sig := whole()
	expectClass(t, sig, "plus z N N", "{x1:nat} plus z x1 x1", 1)
	expectClass(t, sig, "step (app (lam [x] E x) M) (E M)", "{x1:tm -> tm} {x2:tm} step (app (lam ([x3] x1 x3)) x2) (x1 x2)", 2)
	expectClass(t, sig, "plus z _ N", "{x1:nat} {x2:nat} plus z x1 x2", 2)
	expectErrors(t, sig, api.ErrShape, "plus (s M) N")
	expectClass(t, sig, "{x:nat} plus x (E x) N", "{x1:nat -> nat} {x2:nat} {x3:nat} plus x3 (x1 x3) x2", 2)
	expectErrors(t, sig, api.ErrOpen, "plus z (E z) N")
}

// P10.1: the examples of the document

func TestExamplesOfAll(t *testing.T) {
	sig := declared(t, nil, "nat : type. z : nat. s : nat -> nat. plus : nat -> nat -> nat -> type. pz : plus z N N. ps : plus (s M) N (s P) <- plus M N P.")
	for n, want := range build.Numbers() {
		if sig[n].Name != want.Name || sig[n].Implicit != want.Implicit || !term.Same(sig[n].Class, want.Class) {
			t.Errorf("Declare of %s = %v, want %v", want.Name, sig[n], want)
		}
	}
	sig = declared(t, sig, "vec : nat -> type. empty : vec z. cons : nat -> vec N -> vec (s N).")
	sig = declared(t, sig, "tm : type. lam : (tm -> tm) -> tm. app : tm -> tm -> tm. step : tm -> tm -> type. beta : step (app (lam [x] E x) M) (E M).")
	for n, want := range whole()[:build.Beta] {
		if n != build.Cons && (sig[n].Name != want.Name || sig[n].Implicit != want.Implicit || !term.Same(sig[n].Class, want.Class)) {
			t.Errorf("Declare of %s = %v, want %v", want.Name, sig[n], want)
		}
	}
	if n, err := check.Signature(sig); n != len(sig) || err != api.OK {
		t.Errorf("Signature = %d, %d", n, err)
	}
}

// P10.1, P10.4: a larger signature

func TestLanguage(t *testing.T) {
	sig := declared(t, whole(), `
		tp : type. arr : tp -> tp -> tp. one : tp.
		of : tm -> tp -> type.
		oflam : of (lam [x] E x) (arr A B) <- ({x:tm} of x A -> of (E x) B).
		ofapp : of (app M N) B <- of M (arr A B) <- of N A.
		val : tm -> type. vlam : val (lam E).
		steplam : step (lam E) (lam F) <- ({x:tm} step (E x) (F x)).
		stepapp : step (app M N) (app P N) <- step M P.
		eta : step (lam [x] app M x) M.
		pres : of M A -> step M N -> of N A -> type.
		presbeta : pres (ofapp DN (oflam [x] [d] D x d)) beta (D _ DN).
		presapp : pres (ofapp DN DM) (stepapp S) (ofapp DN DP) <- pres DM S DP.
		preslam : {A:tp} {D:{x:tm} of x A -> of (E x) B} {S:{x:tm} step (E x) (F x)} {G:{x:tm} of x A -> of (F x) B}
			({x:tm} {d:of x A} pres (D x d) (S x) (G x d)) -> pres (oflam D) (steplam S) (oflam G).
		id : {A:tp} of (lam [x] x) (arr A A). twice : ((tm -> tm) -> tm) -> type. t : twice ([f] f (f (lam f))).
		less : nat -> nat -> type. lz : less z (s _). ls : less (s M) (s N) <- less M N.
		con : {n:nat} vec n -> vec n -> type. cz : con z empty empty. cs : con _ (cons X L) (cons X K) <- con _ L K.
	`)
	if n, err := check.Signature(sig); n != len(sig) || err != api.OK {
		t.Errorf("Signature = %d, %d", n, err)
	}
	want := map[string]int{
		"oflam": 3, "ofapp": 4, "vlam": 1, "steplam": 2, "stepapp": 3, "eta": 1, "pres": 3, "presbeta": 6, "presapp": 9, "preslam": 3, "id": 0, "lz": 1, "ls": 2, "cs": 4,
	}
	for _, d := range sig {
		if n, ok := want[d.Name]; ok && d.Implicit != n {
			t.Errorf("%s has %d implicit arguments: %s", d.Name, d.Implicit, shown(sig, d.Class))
		}
	}
	// At the first use of S, its type may still contain d.
	expectErrors(t, sig, api.ErrScope, "pres (oflam D) (steplam S) (oflam F) <- ({x:tm} {d:of x A} pres (D x d) (S x) (F x d))")
	expectClass(t, sig, "step (lam E) (lam F) <- ({x:tm} step (E x) (F x))",
		"{x1:tm -> tm} {x2:tm -> tm} ({x3:tm} step (x1 x3) (x2 x3)) -> step (lam ([x3] x1 x3)) (lam ([x3] x2 x3))", 2)
	expectClass(t, sig, "of (lam E) (arr A B) <- ({x:tm} of x A -> of (E x) B)",
		"{x1:tp} {x2:tm -> tm} {x3:tp} ({x4:tm} of x4 x1 -> of (x2 x4) x3) -> of (lam ([x4] x2 x4)) (arr x1 x3)", 3)
}

// P10.1: types and kinds

func TestTypesAndKinds(t *testing.T) {
	sig := whole()
	for _, x := range [][2]string{
		{"type", "type"},
		{"nat", "nat"},
		{"nat -> type", "nat -> type"},
		{"nat -> nat -> nat", "nat -> nat -> nat"},
		{"(nat -> nat) -> nat", "(nat -> nat) -> nat"},
		{"{x:nat} vec x", "{x1:nat} vec x1"},
		{"{x:nat} vec x -> type", "{x1:nat} vec x1 -> type"},
		{"{x:nat} {y:vec x} vec (s x)", "{x1:nat} vec x1 -> vec (s x1)"},
		{"nat -> {x:nat} vec x", "nat -> {x1:nat} vec x1"},
		{"{x:nat} nat -> {y:vec x} vec x", "{x1:nat} nat -> vec x1 -> vec x1"},
		{"vec z <- nat <- tm", "tm -> nat -> vec z"},
		{"{x:nat -> nat} vec (x (x z))", "{x1:nat -> nat} vec (x1 (x1 z))"},
		{"{X:nat} vec X", "{x1:nat} vec x1"},
		{"{nat:tm} step nat nat", "{x1:tm} step x1 x1"},
		{"plus z z (s z)", "plus z z (s z)"},
	} {
		expectClass(t, sig, x[0], x[1], 0)
	}
	expectErrors(t, sig, api.ErrLevel,
		"_", "[x] nat", "[x:nat] nat", "_ -> nat", "nat -> _", "type -> nat", "{x:type} nat", "(nat -> type) -> nat", "{x:nat -> type} nat", "type -> type",
		"z", "s z", "pz", "X", "X z", "{x:nat} x", "{x:nat -> nat} x z", "_ z", "([x] nat) z", "type z", "(nat -> nat) z", "nat -> z", "[x:nat] vec x",
	)
	expectErrors(t, sig, api.ErrOpen, "{x} nat", "{x:_} nat", "nat -> {x} vec x", "{x} type -> nat")
	expectErrors(t, sig, api.ErrShape, "vec", "vec z z", "nat z", "plus z z", "plus", "plus z z z z", "vec -> type", "{x:vec} nat")
	expectErrors(t, sig, api.ErrName, "k", "k z", "nat -> k", "{x:k} nat", "vec k", "vec (s k)", "{x:nat} vec y", "vec x -> {x:nat} nat")
	// What stands first decides.
	expectErrors(t, sig, api.ErrLevel, "type -> k", "{x:type} k", "nat -> type -> k", "plus z nat k", "plus type k k")
	expectErrors(t, sig, api.ErrName, "k -> type -> nat", "{x:k} type -> nat", "plus k z", "plus z k nat", "vec k z", "k -> _")
	expectErrors(t, sig, api.ErrShape, "vec -> k", "plus z -> type -> nat", "vec z k", "vec (s z z) k")
	expectErrors(t, sig, api.ErrOpen, "{x} k", "plus z (E z) k", "{x:_} type -> nat")
}

// P10.1: objects

func TestObjects(t *testing.T) {
	sig := declared(t, whole(), "fun : (nat -> nat) -> type. two : (nat -> nat -> nat) -> type. high : ((nat -> nat) -> nat) -> type. dep : ({x:nat} vec x) -> type.")
	for _, x := range [][2]string{
		{"vec (s z)", "vec (s z)"},
		{"fun s", "fun ([x1] s x1)"},
		{"fun [x] s x", "fun ([x1] s x1)"},
		{"fun [x:nat] s (s x)", "fun ([x1] s (s x1))"},
		{"fun [s] s", "fun ([x1] x1)"},
		{"fun [x] z", "fun ([x1] z)"},
		{"two [x] s", "two ([x1] [x2] s x2)"},
		{"two [x] [y] x", "two ([x1] [x2] x1)"},
		{"two [x:nat] [y:nat] y", "two ([x1] [x2] x2)"},
		{"high [f] f (f z)", "high ([x1] x1 (x1 z))"},
		{"{f:nat -> nat} fun f", "{x1:nat -> nat} fun ([x2] x1 x2)"},
		{"{f:nat -> nat -> nat} fun (f z)", "{x1:nat -> nat -> nat} fun ([x2] x1 z x2)"},
		{"{f:nat -> nat -> nat} two f", "{x1:nat -> nat -> nat} two ([x2] [x3] x1 x2 x3)"},
		{"{f:(nat -> nat) -> nat} high f", "{x1:(nat -> nat) -> nat} high ([x2] x1 ([x3] x2 x3))"},
		{"{f:(nat -> nat) -> nat} vec (f s)", "{x1:(nat -> nat) -> nat} vec (x1 ([x2] s x2))"},
		{"high [f:nat -> nat] f z", "high ([x1] x1 z)"},
		{"{f:{x:nat} vec x} dep f", "{x1:{x1:nat} vec x1} dep ([x2] x1 x2)"},
		{"{f:{x:nat} vec x} dep [x:nat] f x", "{x1:{x1:nat} vec x1} dep ([x2] x1 x2)"},
	} {
		expectClass(t, sig, x[0], x[1], 0)
	}
	expectErrors(t, sig, api.ErrLevel, "vec type", "vec (nat -> nat)", "vec ({x:nat} nat)", "vec nat", "vec (vec z)", "fun nat", "fun vec", "fun [x] nat", "fun [x:type] z", "fun [x:z] z", "fun [x] type", "vec (s nat)")
	expectErrors(t, sig, api.ErrShape, "vec s", "vec [x] x", "vec (s z z)", "vec (z z)", "fun z", "fun (s z)", "fun [x] [y] x", "two [x] x", "{x:nat} vec (x z)", "{f:nat -> nat} vec f", "two s", "vec (s s)")
	expectErrors(t, sig, api.ErrClash, "fun [x:tm] z", "vec (lam [x] x)", "{x:tm} vec x", "vec empty", "fun [x:nat -> nat] z", "{x:vec z} vec x", "dep [x:tm] empty", "{f:tm -> nat} fun f", "{f:nat -> tm} fun f", "high s", "dep [x] empty")
	expectErrors(t, sig, api.ErrName, "vec k", "fun [x] k", "fun [x:k] x", "fun [x] s y", "vec (k z)")
	expectErrors(t, sig, api.ErrOpen, "vec (type z)", "vec (_ z)", "vec (([x] x) z)", "vec ((nat -> nat) z)", "fun (([x] [y] x) z)", "vec (({x:nat} nat) k)")
}

// P10.1: names

func TestNames(t *testing.T) {
	sig := declared(t, whole(), "fun : (nat -> nat) -> type. two : (nat -> nat -> nat) -> type.")
	// The innermost variable, then metavariables, then constants.
	expectClass(t, sig, "two [x] [x] x", "two ([x1] [x2] x2)", 0)
	expectClass(t, sig, "{x:nat} two [y] [y] x", "{x1:nat} two ([x2] [x3] x1)", 0)
	expectClass(t, sig, "fun [X] X", "fun ([x1] x1)", 0)
	expectClass(t, sig, "plus X X X -> {X:nat} plus X X X", "{x1:nat} plus x1 x1 x1 -> {x2:nat} plus x2 x2 x2", 1)
	expectClass(t, sig, "{z:nat} plus z z z", "{x1:nat} plus x1 x1 x1", 0)
	expectClass(t, sig, "{x:nat} vec x -> plus z z z", "{x1:nat} vec x1 -> plus z z z", 0)
	expectClass(t, sig, "({z:nat} vec z) -> vec z", "({x1:nat} vec x1) -> vec z", 0)
	expectErrors(t, sig, api.ErrLevel, "{nat:nat} nat", "{vec:nat} vec z")
	expectErrors(t, sig, api.ErrName, "({x:nat} vec x) -> vec x", "fun ([x] x) -> vec x")
	// A capital name is the same everywhere in a declaration.
	expectClass(t, sig, "plus M N P -> plus N M P", "{x1:nat} {x2:nat} {x3:nat} plus x1 x2 x3 -> plus x2 x1 x3", 3)
	expectClass(t, sig, "vec (s N) -> fun [x] N", "{x1:nat} vec (s x1) -> fun ([x2] x1)", 1)
	expectErrors(t, sig, api.ErrShape, "vec F -> fun F", "fun F -> vec F", "fun F -> vec (F z z)")
	expectErrors(t, sig, api.ErrClash, "vec N -> step N N")
}

// P10.1: holes

func TestHoles(t *testing.T) {
	sig := declared(t, whole(), "fun : (nat -> nat) -> type. eq : {n:nat} vec n -> vec n -> type.")
	expectClass(t, sig, "vec _", "{x1:nat} vec x1", 1)
	expectClass(t, sig, "plus _ _ _", "{x1:nat} {x2:nat} {x3:nat} plus x1 x2 x3", 3)
	expectClass(t, sig, "fun _", "{x1:nat -> nat} fun ([x2] x1 x2)", 1)
	expectClass(t, sig, "fun [x] _", "{x1:nat -> nat} fun ([x2] x1 x2)", 1)
	expectClass(t, sig, "{x:nat} vec _", "{x1:nat -> nat} {x2:nat} vec (x1 x2)", 1)
	expectClass(t, sig, "{x:nat} {y:vec x} vec _", "{x1:{x1:nat} vec x1 -> nat} {x2:nat} {x3:vec x2} vec (x1 x2 x3)", 1)
	expectClass(t, sig, "eq _ empty _", "{x1:vec z} eq z empty x1", 1)
	expectClass(t, sig, "eq _ _ empty", "{x1:vec z} eq z x1 empty", 1)
	expectClass(t, sig, "eq _ X Y", "{x1:nat} {x2:vec x1} {x3:vec x1} eq x1 x2 x3", 3)
	expectClass(t, sig, "{x:nat} {y:vec x} eq _ y y", "{x1:nat} {x2:vec x1} eq x1 x2 x2", 0)
	expectErrors(t, sig, api.ErrClash, "eq (s _) empty _", "eq _ (s z) _")
	// Implicit arguments are like holes.
	expectClass(t, sig, "eq _ (cons z _) X", "{x1:nat} {x2:vec x1} {x3:vec (s x1)} eq (s x1) (cons x1 z x2) x3", 3)
	expectClass(t, sig, "eq _ (cons z empty) X", "{x1:vec (s z)} eq (s z) (cons z z empty) x1", 1)
	expectClass(t, sig, "{n:nat} {l:vec n} eq _ (cons n l) (cons _ _)", "{x1:{x1:nat} vec x1 -> nat} {x2:{x2:nat} vec x2 -> vec x2} {x3:nat} {x4:vec x3} eq (s x3) (cons x3 x3 x4) (cons x3 (x1 x3 x4) (x2 x3 x4))", 2)
	expectErrors(t, sig, api.ErrClash, "eq z (cons z _) X", "eq _ (cons z X) X", "eq (s (s z)) (cons z empty) _")
}

func TestDeclare(t *testing.T) {
	sig := whole()
	longer, err := elab.Declare(sig, "k", raw(t, "plus z N N"))
	if err != api.OK || len(longer) != len(sig)+1 {
		t.Fatalf("Declare = %d constants, %d", len(longer), err)
	}
	last := longer[len(sig)]
	if last.Name != "k" || last.Implicit != 1 || !term.Same(last.Class, sig[pz].Class) {
		t.Errorf("Declare = %v", last)
	}
	for name, want := range map[string]api.Errno{"z": api.ErrTwice, "": api.ErrArg, "K": api.ErrArg, "type": api.ErrArg, "a b": api.ErrArg, "abcdefghijklmnopq": api.ErrArg, "k": api.OK, "abcdefghijklmnop": api.OK} {
		_, err := elab.Declare(sig, name, raw(t, "nat"))
		expect(t, "Declare of "+strconv.Quote(name), err, want)
		// Errors of the class come first.
		got, err := elab.Declare(sig, name, raw(t, "nat z"))
		if err != api.ErrShape || len(got) > 0 {
			t.Errorf("Declare of %q = %v, %d", name, got, err)
		}
	}
	_, err = elab.Declare(build.Flat(api.MaxDecls), "k", raw(t, "a"))
	expect(t, "Declare", err, api.ErrFull)
	_, err = elab.Declare(build.Flat(api.MaxDecls), "a", raw(t, "a"))
	expect(t, "Declare", err, api.ErrTwice)
	_, err = elab.Declare(build.Flat(api.MaxDecls-1), "k", raw(t, "a"))
	expect(t, "Declare", err, api.OK)
}
