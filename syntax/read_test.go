package syntax

import (
	"strings"
	"testing"

	"truss/api"
)

// P2.1: what is read.

func TestExprReads(t *testing.T) {
	a, b, c, d, f, x := name("a"), name("b"), name("c"), name("d"), name("f"), name("x")
	reads := map[string]api.Raw{
		"a": a, "_": hole(), "type": typ(), "X'": name("X'"), "((a))": a, "% first\n a % last": a,
		"f a b":           app(app(f, a), b),
		"f (a b)":         app(f, app(a, b)),
		"(f a) b":         app(app(f, a), b),
		"f type _":        app(app(f, typ()), hole()),
		"_ a":             app(hole(), a),
		"type a":          app(typ(), a),
		"(a -> b) c":      app(arrow(a, b), c),
		"a -> b -> c":     arrow(a, arrow(b, c)),
		"(a -> b) -> c":   arrow(arrow(a, b), c),
		"f a -> f b":      arrow(app(f, a), app(f, b)),
		"a <- b":          arrow(b, a),
		"a <- b <- c":     arrow(c, arrow(b, a)),
		"a <- f b <- c d": arrow(app(c, d), arrow(app(f, b), a)),
		"a <- (b <- c)":   arrow(arrow(c, b), a),
		"a <- (b -> c)":   arrow(arrow(b, c), a),
		"a -> b <- c":     arrow(a, arrow(c, b)),
		"{x} a":           pi("x", hole(), a),
		"{x:_} a":         pi("x", hole(), a),
		"{x:a} b":         pi("x", a, b),
		"{X : a -> b} c":  pi("X", arrow(a, b), c),
		"[x] a":           lam("x", hole(), a),
		"[x:a] b":         lam("x", a, b),
		"[x:{x:a} x] x":   lam("x", pi("x", a, x), x),
		"{x:a} b -> c":    pi("x", a, arrow(b, c)),
		"{x:a} b <- c":    pi("x", a, arrow(c, b)),
		"({x:a} b) -> c":  arrow(pi("x", a, b), c),
		"[x] {x} x":       lam("x", hole(), pi("x", hole(), x)),
		"f [x] a b":       app(f, lam("x", hole(), app(a, b))),
		"f a [x] b -> c":  app(app(f, a), lam("x", hole(), arrow(b, c))),
		"f {x:a} b <- c":  app(f, pi("x", a, arrow(c, b))),
		"f ([x] a) b":     app(app(f, lam("x", hole(), a)), b),
		"a -> {x} b":      arrow(a, pi("x", hole(), b)),
		"a -> f [x] b":    arrow(a, app(f, lam("x", hole(), b))),
		"a <- {x} b":      arrow(pi("x", hole(), b), a),
		"a <- {x} b -> c": arrow(pi("x", hole(), arrow(b, c)), a),
		"a <- {x} b <- c": arrow(pi("x", hole(), arrow(c, b)), a),
		"a <- f [x] b":    arrow(app(f, lam("x", hole(), b)), a),
		"a<-f[x]b<-c":     arrow(app(f, lam("x", hole(), arrow(c, b))), a),
		"a->b":            arrow(a, b),
		"{x:nat} plus x z x -> type": pi("x", name("nat"),
			arrow(app(app(app(name("plus"), x), name("z")), x), typ())),
		"app (lam [x] E x) M": app(app(name("app"), app(name("lam"), lam("x", hole(), app(name("E"), x)))), name("M")),
	}
	for source, want := range reads {
		if got := mustRead(t, source); !equal(got, want) {
			t.Errorf("Expr(%q) = %v; want %v", source, got, want)
		}
	}
}

func TestExprReadsDeepParentheses(t *testing.T) {
	count := (api.MaxSource - 1) / 2
	source := strings.Repeat("(", count) + "a" + strings.Repeat(")", count)
	if got := mustRead(t, source); !Same(got, name("a")) {
		t.Error(got)
	}
}

func TestItemsReads(t *testing.T) {
	source := "nat : type. s : nat -> nat.\n%total {N M} (ack N M _).\n%block b {x:tm} [A +B] 3 | = .%w.%type type'."
	want := []api.Item{
		{Name: "nat", Raw: typ()},
		{Name: "s", Raw: arrow(name("nat"), name("nat"))},
		{Word: "total", Parts: []api.Part{
			{Op: api.PLex, Parts: []api.Part{{Op: api.PName, Name: "N"}, {Op: api.PName, Name: "M"}}},
			{Op: api.PTerm, Raw: app(app(app(name("ack"), name("N")), name("M")), hole())},
		}},
		{Word: "block", Parts: []api.Part{
			{Op: api.PName, Name: "b"},
			{Op: api.PBind, Name: "x", Raw: name("tm")},
			{Op: api.PSim, Parts: []api.Part{{Op: api.PName, Name: "A"}, {Op: api.PSign, Sign: "+", Name: "B"}}},
			{Op: api.PNum, N: 3}, {Op: api.PMark, Sign: "|"}, {Op: api.PMark, Sign: "="},
		}},
		{Word: "w"},
		{Word: "type", Parts: []api.Part{{Op: api.PName, Name: "type'"}}},
	}
	got, at, err := Items(source)
	if !equal(got, want) || at != 0 || err != api.OK {
		t.Errorf("%v, %d, %d; want %v", got, at, err, want)
	}
}

func TestItemsReadsParts(t *testing.T) {
	n, colon := api.Part{Op: api.PName, Name: "N"}, api.Part{Op: api.PMark, Sign: ":"}
	lex := func(parts ...api.Part) api.Part { return api.Part{Op: api.PLex, Parts: parts} }
	sim := func(parts ...api.Part) api.Part { return api.Part{Op: api.PSim, Parts: parts} }
	bind := func(r api.Raw) api.Part { return api.Part{Op: api.PBind, Name: "N", Raw: r} }
	sign := func(s, name string) api.Part { return api.Part{Op: api.PSign, Sign: s, Name: name} }
	reads := map[string][]api.Part{
		"":                 nil,
		"N : N":            {n, colon, n},
		"{N:N}":            {bind(name("N"))},
		"{N:_}":            {bind(hole())},
		"{N:[N] N <- N}":   {bind(lam("N", hole(), arrow(name("N"), name("N"))))},
		"{N}":              {lex(n)},
		"{}":               {lex()},
		"[]":               {sim()},
		"[N:N]":            {sim(n, colon, n)},
		"{:N:}":            {lex(colon, n, colon)},
		"{N N:}":           {lex(n, n, colon)},
		"{[N:] {N:N} {N}}": {lex(sim(n, colon), bind(name("N")), lex(n))},
		"+N -x *N'":        {sign("+", "N"), sign("-", "x"), sign("*", "N'")},
		"{+N:}":            {lex(sign("+", "N"), colon)},
		"- N":              {sign("-", "N")},
		"0 10000":          {{Op: api.PNum}, {Op: api.PNum, N: 10000}},
		"(N)":              {{Op: api.PTerm, Raw: name("N")}},
		"({N} N)":          {{Op: api.PTerm, Raw: pi("N", hole(), name("N"))}},
	}
	for parts, want := range reads {
		got, _, err := Items("%w " + parts + ".")
		if err != api.OK || len(got) != 1 || !equal(got[0], api.Item{Word: "w", Parts: want}) {
			t.Errorf("%q: %v, %d; want %v", parts, got, err, want)
		}
	}
}

func TestItemsReadsNothing(t *testing.T) {
	for _, source := range []string{"", " \n", "% a : b."} {
		if got, at, err := Items(source); len(got) != 0 || at != 0 || err != api.OK {
			t.Errorf("%q: %v, %d, %d", source, got, at, err)
		}
	}
}

// P2.1: errors.

func checkExprError(t *testing.T, source string, wantAt int, want api.Errno) {
	t.Helper()
	if r, at, err := Expr(source); at != wantAt || err != want || !equal(r, api.Raw{}) {
		t.Errorf("Expr(%.40q) = %v, %d, %d; want %d, %d", source, r, at, err, wantAt, want)
	}
}

func checkItemsError(t *testing.T, source string, wantAt int, want api.Errno) {
	t.Helper()
	if l, at, err := Items(source); at != wantAt || err != want || len(l) != 0 {
		t.Errorf("Items(%.40q) = %v, %d, %d; want %d, %d", source, l, at, err, wantAt, want)
	}
}

func TestExprSyntaxErrors(t *testing.T) {
	wrong := map[string]int{
		"": 0, "  ": 2, "% a": 3, "(a": 2, "(a ": 3, "[x a": 3, "a b)": 3, "()": 1, "a ()": 3, "type : a": 5, "a : b": 2, "a.": 1,
		"a <- b -> c": 7, "(a <- b -> c)": 8, "a ->": 4, "a <-": 4, "-> a": 0, "<- a": 0, "a -> -> b": 5, "a <- -> b": 5,
		"{type} a": 1, "[type:a] a": 1, "{_} a": 1, "{x a} b": 3, "{x:} a": 3, "{x] a": 2, "[x} a": 2, "{x:a": 4, "{x}": 3, "{} a": 1,
		"[3] a": 1, "a 3": 2, "a %w": 2, "+a": 0, "a * b": 2, "a | b": 2, "a = b": 2, "{x} a <- b -> c": 11, "a <- {x} b <- c -> d": 16,
	}
	for source, at := range wrong {
		checkExprError(t, source, at, api.ErrSyntax)
	}
}

// A binder is the last one, even where an arrow could stand after it in the bare grammar.
func TestExprNothingAfterABinder(t *testing.T) {
	checkExprError(t, "a [x] b <- c -> d", 13, api.ErrSyntax)
	checkExprError(t, "a {x:e} b <- c -> d", 15, api.ErrSyntax)
	checkExprError(t, "(a [x] b <- c -> d)", 14, api.ErrSyntax)
}

func TestItemsSyntaxErrors(t *testing.T) {
	wrong := map[string]int{
		"a": 1, "a b.": 2, "a :": 3, "a : .": 4, "a : b": 5, "a : b c : d.": 8, "a : b. c": 8, "a : b..": 6, "type : a.": 0, "A : b.": 0,
		"_ : a.": 0, "3.": 0, ".": 0, "(a) : b.": 0, "a : b. type : c.": 7, "%w": 2, "%w a": 4, "%w type.": 3, "%w _.": 3, "%w ->.": 3,
		"%w <-.": 3, "%w %w.": 3, "%w ).": 3, "%w }.": 3, "%w ].": 3, "%w + 3.": 5, "%w +type.": 4, "%w +.": 4, "%w -_.": 4,
		"%w (a.": 5, "%w ().": 4, "%w (+a).": 4, "%w {a:}.": 6, "%w {a:b c}": 10, "%w {a:b : c}.": 8, "%w {type:a}.": 4, "%w {a.": 5,
		"%w [a}.": 5, "%w {a].": 5, "%w {a %w}.": 6, "%w [a": 5, "%w {a:b.": 7, "%w {a : + b}.": 8, "a : %w.": 4, "a : b <- c -> d.": 11,
	}
	for source, at := range wrong {
		checkItemsError(t, source, at, api.ErrSyntax)
	}
}

func TestErrorsOfTokensComeFirst(t *testing.T) {
	checkExprError(t, ") $", 2, api.ErrSyntax)
	checkExprError(t, "a b) 01", 5, api.ErrSyntax)
	checkItemsError(t, "a : b. c _x", 9, api.ErrSyntax)
	blanks := strings.Repeat(" ", api.MaxSource)
	checkExprError(t, ")"+blanks, 0, api.ErrFull)
	checkItemsError(t, "$"+blanks, 0, api.ErrFull)
	if _, at, err := Expr("a" + blanks[1:]); at != 0 || err != api.OK {
		t.Error(at, err)
	}
}

func TestItemsLimit(t *testing.T) {
	most := strings.Repeat("a : b.%w.", api.MaxItems/2)
	if got, at, err := Items(most); len(got) != api.MaxItems || at != 0 || err != api.OK {
		t.Error(len(got), at, err)
	}
	checkItemsError(t, most+"a : b.", 0, api.ErrFull)
	checkItemsError(t, most+"a : b. c", len(most)+8, api.ErrSyntax)
}

func TestExprLimits(t *testing.T) {
	deep := strings.Repeat("a -> ", api.MaxDepth-1) + "a"
	if r := mustRead(t, deep); !equal(r, chain(api.MaxDepth)) {
		t.Error(r)
	}
	checkExprError(t, "a -> "+deep, 0, api.ErrFull)
	checkExprError(t, "f"+strings.Repeat(" a", api.MaxDepth), 0, api.ErrFull)
	checkExprError(t, strings.Repeat("[x] ", api.MaxDepth)+"x", 0, api.ErrFull)
	mustRead(t, strings.Repeat("[x] ", api.MaxDepth-1)+"x")
	checkExprError(t, "a -> "+deep+" )", len(deep)+6, api.ErrSyntax)

	// An even number of nodes cannot be: 399 is the most, as every node has two arguments or none.
	large := mustText(t, bush(api.MaxRaw-1))
	if r := mustRead(t, large); !equal(r, bush(api.MaxRaw-1)) {
		t.Error("a large expression is read wrongly")
	}
	checkExprError(t, "a ("+large+")", 0, api.ErrFull)
	checkItemsError(t, "a : "+deep+" -> a.", 0, api.ErrFull)
	checkItemsError(t, "%w (a ("+large+")).", 0, api.ErrFull)
	checkItemsError(t, "%w {x:a ("+large+")}.", 0, api.ErrFull)
	checkItemsError(t, "%w [(a ("+large+"))].", 0, api.ErrFull)
}

func TestPartsLimits(t *testing.T) {
	ok := func(source string) {
		t.Helper()
		if l, at, err := Items(source); len(l) != 1 || at != 0 || err != api.OK {
			t.Errorf("Items(%.40q): %d, %d", source, at, err)
		}
	}
	ok("%w" + strings.Repeat(" a", api.MaxRaw) + ".")
	checkItemsError(t, "%w"+strings.Repeat(" a", api.MaxRaw+1)+".", 0, api.ErrFull)
	ok("%w {" + strings.Repeat(" a", api.MaxRaw-1) + "}.")
	checkItemsError(t, "%w {"+strings.Repeat(" a", api.MaxRaw)+"}.", 0, api.ErrFull)
	checkItemsError(t, "%w [{"+strings.Repeat(" a", api.MaxRaw/2)+"}"+strings.Repeat(" 1", api.MaxRaw/2-1)+"].", 0, api.ErrFull)
	ok("%w [{" + strings.Repeat(" a", api.MaxRaw/2) + "}" + strings.Repeat(" 1", api.MaxRaw/2-2) + "].")
	nested := func(depth int) string {
		return "%w " + strings.Repeat("{[", depth/2) + strings.Repeat("]}", depth/2) + "."
	}
	ok(nested(api.MaxDepth))
	checkItemsError(t, nested(api.MaxDepth+2), 0, api.ErrFull)
	ok("%w " + strings.Repeat("[", api.MaxDepth-1) + "a" + strings.Repeat("]", api.MaxDepth-1) + ".")
	checkItemsError(t, "%w "+strings.Repeat("[", api.MaxDepth)+"a"+strings.Repeat("]", api.MaxDepth)+".", 0, api.ErrFull)
}
