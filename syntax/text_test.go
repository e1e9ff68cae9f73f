package syntax

import (
	"slices"
	"strings"
	"testing"

	"truss/api"
)

// P2.3

func TestText(t *testing.T) {
	a, b, x := name("a"), name("b"), name("x")
	fun, all, abs, call := arrow(a, b), pi("x", a, b), lam("x", a, b), app(a, b)
	texts := map[string]api.Raw{
		"a": a, "type": typ(), "_": hole(),
		"a b": call, "a b a": app(call, a), "a type": app(a, typ()), "a _": app(a, hole()), "_ a": app(hole(), a), "type a": app(typ(), a),
		"(a -> b) a": app(fun, a), "({x:a} b) a": app(all, a), "([x:a] b) a": app(abs, a),
		"a (a b)": app(a, call), "a (a -> b)": app(a, fun), "a ({x:a} b)": app(a, all), "a ([x:a] b)": app(a, abs),
		"a ([x:a] b) b": app(app(a, abs), b), "a (b ([x:a] b))": app(a, app(b, abs)),
		"(a -> b) -> a": arrow(fun, a), "({x:a} b) -> a": arrow(all, a), "([x:a] b) -> a": arrow(abs, a),
		"a b -> a": arrow(call, a), "type -> _": arrow(typ(), hole()), "a ([x:a] b) -> a": arrow(app(a, abs), a),
		"a -> a -> b": arrow(a, fun), "a -> {x:a} b": arrow(a, all), "a -> [x:a] b": arrow(a, abs), "a -> a b": arrow(a, call),
		"{x} x": pi("x", hole(), x), "[x] x": lam("x", hole(), x), "{x:type} x": pi("x", typ(), x), "[X':_ a] x": lam("X'", app(hole(), a), x),
		"{x:a -> b} a -> b": pi("x", fun, fun), "{x:{x:a} b} {x:a} b": pi("x", all, all), "[x:[x:a] b] [x:a] b": lam("x", abs, abs),
		"[x:a b] a b": lam("x", call, call),
	}
	for want, r := range texts {
		if got := mustText(t, r); got != want {
			t.Errorf("Text(%v) = %q; want %q", r, got, want)
		}
		if got := mustRead(t, want); !equal(got, r) {
			t.Errorf("Expr(%q) = %v; want %v", want, got, r)
		}
	}
}

func TestTextOfExamples(t *testing.T) {
	texts := map[string]string{
		"{x:nat} plus x z x -> type": "{x:nat} plus x z x -> type", "app (lam [x] E x) M": "app (lam ([x] E x)) M",
		"a <- b <- c": "c -> b -> a", "a -> b <- c": "a -> c -> b", "{x : _}  [ y:_ ] ((x)) y": "{x} [y] x y", "a <- {x:b} c": "({x:b} c) -> a",
	}
	for source, want := range texts {
		if got := mustText(t, mustRead(t, source)); got != want {
			t.Errorf("%q: %q; want %q", source, got, want)
		}
	}
}

func TestTextReadAgain(t *testing.T) {
	m := &maker{seed: 1}
	for range 3000 {
		r := m.raw(2 + m.below(5))
		text := mustText(t, r)
		if got := mustRead(t, text); !equal(got, r) || !Same(got, r) {
			t.Fatalf("%q is read again as %v", text, got)
		}
	}
}

func TestTextTooLongToBeRead(t *testing.T) {
	long := strings.Repeat("n", api.MaxName)
	r := name(long)
	for range 5 {
		r = lam(long, r, r)
		r = pi(long, name(long), r)
	}
	text := mustText(t, r)
	if len(text) > api.MaxSource {
		t.Fatal("not yet too long", len(text))
	}
	r = app(app(r, r), r)
	if text = mustText(t, r); len(text) <= api.MaxSource {
		t.Fatal("not too long", len(text))
	}
	checkExprError(t, text, 0, api.ErrFull)
}

func TestTextItem(t *testing.T) {
	texts := map[string]string{
		"nat:type.":                                   "nat : type.",
		"a : b <- c.":                                 "a : c -> b.",
		"%w .":                                        "%w.",
		"%mode plus + M - N * P .":                    "%mode plus +M -N *P.",
		"%total {N M} (ack N M _).":                   "%total {N M} (ack N M _).",
		"%total [ N ( M ) {N:(M)} ] {}[].":            "%total [N (M) {N:M}] {} [].",
		"%block b {x:tm} [A +B] 3 | = .":              "%block b {x:tm} [A +B] 3 | =.",
		"%w {x:_} ([x:_] x) (_) {x : a->b} : .":       "%w {x:_} ([x] x) (_) {x:a -> b} :.",
		"%w {:N:} [N:{+N = 0}] (f [x] a <- b) 10000.": "%w {: N :} [N : {+N = 0}] (f ([x] b -> a)) 10000.",
	}
	for source, want := range texts {
		items, _, err := Items(source)
		if err != api.OK {
			t.Fatal(source, err)
		}
		if got, err := TextItem(items[0]); got != want || err != api.OK {
			t.Errorf("%q: %q, %d; want %q", source, got, err, want)
		}
	}
}

func TestTextItemReadAgain(t *testing.T) {
	m := &maker{seed: 7}
	read := 0
	for range 3000 {
		x := api.Item{Word: "w"}
		for m.below(4) > 0 {
			x.Parts = append(x.Parts, m.part(1+m.below(4)))
		}
		if m.below(4) == 0 {
			x = api.Item{Name: "a", Raw: m.raw(4)}
		}
		text, err := TextItem(x)
		if err != api.OK { // braces that would be a binding
			continue
		}
		read++
		got, _, err := Items(text)
		if err != api.OK || !equal(got, []api.Item{x}) {
			t.Fatalf("%q is read again as %v, %d", text, got, err)
		}
	}
	if read < 2000 {
		t.Error("too few items were read", read)
	}
}

// P2.5

func TestSame(t *testing.T) {
	a, b := name("a"), name("b")
	different := []api.Raw{
		{}, {Op: 9}, {Op: -1}, a, b, name(""), typ(), hole(), app(a, b), app(b, a), app(a, a), arrow(a, b), pi("x", a, b), pi("y", a, b), lam("x", a, b),
		{Op: api.RName, Name: "a", Args: []api.Raw{a}}, {Op: api.RApp, Args: []api.Raw{a}}, {Op: api.RApp, Args: []api.Raw{a, b, a}},
		{Op: 9, Name: "a", Args: []api.Raw{{}, {}}}, {Op: 9, Name: "a", Args: []api.Raw{{}, {Op: 1}}}, app(app(a, b), a), app(a, app(b, a)),
	}
	for i, x := range different {
		for j, y := range different {
			if got := Same(x, y); got != (i == j) {
				t.Errorf("Same(%v, %v) = %v", x, y, got)
			}
		}
	}
	if !Same(api.Raw{Op: 1, Args: []api.Raw{}}, api.Raw{Op: 1}) {
		t.Error("an empty list is not the same as none")
	}
}

func TestSameHoweverDeep(t *testing.T) {
	deep := func(depth int, last string) api.Raw {
		r := name(last)
		for range depth {
			r = api.Raw{Op: 7, Args: []api.Raw{r}}
		}
		return r
	}
	const depth = 1 << 20
	if !Same(deep(depth, "a"), deep(depth, "a")) || Same(deep(depth, "a"), deep(depth, "b")) || Same(deep(depth, "a"), deep(depth+1, "a")) {
		t.Error("deep expressions")
	}
	wide := api.Raw{Args: slices.Repeat([]api.Raw{name("a")}, 100000)}
	if !Same(wide, wide) {
		t.Error("a wide expression")
	}
}
