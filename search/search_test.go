package search_test

import (
	"slices"
	"testing"

	"truss/api"
	"truss/build"
	"truss/load"
	"truss/search"
	"truss/term"
	"truss/written"
)

// P13.1 to P13.3: the examples of the chapter

func TestExamples(t *testing.T) {
	sig := written.Sig(numbers)
	g := goalOf(t, sig, "plus (s z) z M0")
	got := g.expect(t, 2, 9, answer{proofs: []string{"ps z z z (pz z)"}})
	if len(got.List) == 1 && !term.Same(got.List[0].Metas[0].Value, c(s, c(z))) {
		t.Errorf("M0 is %v", got.List[0].Metas[0])
	}
	goalOf(t, sig, "nat").expect(t, 2, 9, answer{proofs: []string{"z", "s z"}, cut: true})
	expectRule(t, sig, ps, []int{0, 1, 2}, []int{3})
}

// expectRule checks which arguments of a constant are dependent, and which are premises.
func expectRule(t *testing.T, sig []api.Decl, n int, dependent, premises []int) {
	t.Helper()
	got, err := search.Rule(sig, n)
	if err != api.OK || !slices.Equal(got.Dependent, dependent) || !slices.Equal(got.Premises, premises) {
		t.Errorf("Rule of %s = %v, %d; want %v, %v", sig[n].Name, got, err, dependent, premises)
	}
}

// P13.1: Rule

func TestRule(t *testing.T) {
	sig := whole()
	for n, want := range map[int]api.Clause{
		nat:         {},
		z:           {},
		s:           {Premises: []int{0}},
		plus:        {Premises: []int{0, 1, 2}},
		pz:          {Dependent: []int{0}},
		vec:         {Premises: []int{0}},
		build.Cons:  {Dependent: []int{0}, Premises: []int{1, 2}},
		build.Beta:  {Dependent: []int{0, 1}},
		build.Each:  {Dependent: []int{0}, Premises: []int{1}},
		build.Apply: {Premises: []int{0, 1}},
	} {
		expectRule(t, sig, n, want.Dependent, want.Premises)
	}
	// What occurs in a domain alone is dependent; also what occurs far within, and below binders.
	sig = written.Sig("n : type. p : n -> type. f : (n -> n) -> n. r : {x:n} p x -> {y:n} p x -> {u:p y} p (f [w] x). q : {x:n} ({y:n} p y -> p x) -> n. k : {x:n} {y:p x} type.")
	expectRule(t, sig, 3, []int{0, 2}, []int{1, 3, 4})
	expectRule(t, sig, 4, []int{0}, []int{1})
	expectRule(t, sig, 5, []int{0}, []int{1})
	// A variable of an inner binder is none of the outer ones.
	sig = written.Sig("n : type. p : n -> type. r : {x:n} ({y:n} p y) -> {z:n} n -> p z.")
	expectRule(t, sig, 2, []int{2}, []int{0, 1, 3})
}

func TestRuleErrors(t *testing.T) {
	for _, n := range []int{-1, len(whole()), api.MaxDecls, 1 << 62, -1 << 62} {
		if got, err := search.Rule(whole(), n); err != api.ErrNone || len(got.Dependent) > 0 || len(got.Premises) > 0 {
			t.Errorf("Rule of %d = %v, %d", n, got, err)
		}
	}
	_, err := search.Rule(nil, 0)
	expectErr(t, "Rule", err, api.ErrNone)
}

// expectHeads checks the heads of a family in a context.
func expectHeads(t *testing.T, sig []api.Decl, ctx []api.Term, family int, want ...api.Term) {
	t.Helper()
	got, err := search.Heads(sig, ctx, family)
	if err != api.OK || !slices.EqualFunc(got, want, term.Same) {
		t.Errorf("Heads of %d in %v = %v, %d; want %v", family, ctx, got, err, want)
	}
}

// P13.1: Heads

func TestHeads(t *testing.T) {
	sig := whole()
	expectHeads(t, sig, nil, nat, c(z), c(s))
	expectHeads(t, sig, nil, plus, c(pz), c(ps))
	expectHeads(t, sig, nil, vec, c(build.Empty), c(build.Cons), c(build.Each))
	expectHeads(t, sig, nats(2), nat, v(0), v(1), c(z), c(s))
	expectHeads(t, sig, nats(2), plus, c(pz), c(ps))
	ctx := []api.Term{c(nat), to(c(tm), c(nat)), to(c(nat), c(tm)), pi(c(nat), c(vec, v(0))), c(nat)}
	expectHeads(t, sig, ctx, nat, v(0), v(3), v(4), c(z), c(s))
	expectHeads(t, sig, ctx, vec, v(1), c(build.Empty), c(build.Cons), c(build.Each))
	expectHeads(t, sig, ctx, tm, v(2), c(build.Lambda), c(build.Apply))
	expectHeads(t, written.Sig("a : type. b : type. c : a."), nil, 1)
	// Types that have no target; families with other arguments than theirs; any metavariables.
	ctx = []api.Term{v(0), m(99), lam(c(nat)), typ(), to(c(nat), typ()), to(c(nat), v(3)), c(z), c(len(sig)), c(api.MaxN), c(nat, m(7)), to(m(3), c(nat)), v(api.MaxN)}
	expectHeads(t, sig, ctx, nat, v(1), v(2), c(z), c(s))
	expectHeads(t, build.Flat(3), []api.Term{c(0, c(1))}, 0, v(0), c(1), c(2))
	if got, err := search.Heads(build.Flat(api.MaxDecls), copies(api.MaxCtx, c(0)), 0); len(got) != api.MaxCtx+api.MaxDecls-1 || err != api.OK {
		t.Errorf("Heads are %d, %d", len(got), err)
	}
}

func TestHeadsErrors(t *testing.T) {
	for _, n := range []int{-1, len(whole()), api.MaxDecls, 1 << 62, -1 << 62} {
		if got, err := search.Heads(whole(), nil, n); err != api.ErrNone || len(got) > 0 {
			t.Errorf("Heads of %d = %v, %d", n, got, err)
		}
	}
	for _, n := range []int{z, s, pz, ps, build.Each} {
		if got, err := search.Heads(whole(), nats(2), n); err != api.ErrLevel || len(got) > 0 {
			t.Errorf("Heads of %d = %v, %d", n, got, err)
		}
	}
}

// P13.3: Query

func TestQuery(t *testing.T) {
	sig := written.Sig(numbers)
	for text, want := range map[string][]string{
		"plus X Y (s (s z))": {"z, s (s z)", "s z, s z", "s (s z), z"},
		"plus (s z) (s X) Y": {"X, s (s X)"},
		"plus (s z) X (s _)": {"X"},
		"plus X X (s (s z))": {"s z"},
		"plus z z (s X)":     nil,
		"plus X z z":         {"z"},
		"{x:nat} plus z x x": {""},
		"{x:nat} plus x z z": nil,
		"{x:nat} plus z x X": nil,
	} {
		g := goalOf(t, sig, text)
		got, err := search.Query(sig, written.Raw(text), 4, 9)
		same, solveErr := g.solve(4, 9)
		if err != api.OK || solveErr != api.OK || !sameAnswers(got, same) {
			t.Errorf("Query of %q = %v, %d; Solve = %v, %d", text, got, err, same, solveErr)
		}
		var values []string
		for _, found := range got.List {
			values = append(values, valuesOf(g, found))
		}
		if !slices.Equal(values, want) {
			t.Errorf("the solutions of %q are %q, want %q", text, values, want)
		}
	}
}

// valuesOf returns the texts of the values of the metavariables that a goal has a name for.
func valuesOf(g goal, found api.Found) string {
	text := ""
	for n := range g.metas {
		if g.metas[n].Name == "" {
			continue
		}
		if text != "" {
			text += ", "
		}
		value := m(n)
		if found.Metas[n].Solved {
			value = found.Metas[n].Value
		}
		text += g.shown(api.Found{Metas: found.Metas, Proof: value})
	}
	return text
}

func sameAnswers(a, b api.Answers) bool {
	return slices.EqualFunc(a.List, b.List, sameFound) && a.Cut == b.Cut && a.Stuck == b.Stuck
}

func TestQueryErrors(t *testing.T) {
	sig := written.Sig(numbers + "id : (nat -> nat) -> type.")
	for text, want := range map[string]api.Errno{
		"k":             api.ErrName,
		"type":          api.ErrLevel,
		"nat -> type":   api.ErrLevel,
		"z":             api.ErrLevel,
		"_":             api.ErrLevel,
		"plus z":        api.ErrShape,
		"plus z (F z)":  api.ErrOpen,
		"{x} nat":       api.ErrOpen,
		"id [x:id s] x": api.ErrClash,
	} {
		// These errors come before those of the numbers.
		for _, numbers := range [][2]int{{2, 2}, {-1, 2}, {2, 0}, {api.MaxSearch + 1, api.MaxAnswers + 1}} {
			got, err := search.Query(sig, written.Raw(text), numbers[0], numbers[1])
			if err != want || !isNothing(got) {
				t.Errorf("Query of %q = %v, %d; want error %d", text, got, err, want)
			}
		}
	}
	for _, numbers := range [][2]int{{-1, 2}, {api.MaxSearch + 1, 2}, {2, 0}, {2, -1}, {2, api.MaxAnswers + 1}} {
		got, err := search.Query(sig, written.Raw("nat"), numbers[0], numbers[1])
		if err != api.ErrArg || !isNothing(got) {
			t.Errorf("Query with %v = %v, %d", numbers, got, err)
		}
	}
}

// P13.3: First

// first is First for a goal.
func (g goal) first(depth int) (api.Found, int, api.Errno) {
	return search.First(g.sig, g.metas, g.ctx, g.a, depth)
}

// expectFirst checks the first solution of a goal, and at which depth it is.
func (g goal) expectFirst(t *testing.T, proof string, want int) {
	t.Helper()
	solved, err := g.solve(want, 1)
	if err != api.OK || len(solved.List) != 1 {
		t.Fatalf("Solve to the depth %d = %v, error %d", want, solved, err)
	}
	// It may be all that is allowed.
	for _, most := range []int{want, want + 1, api.MaxSearch} {
		got, depth, err := g.first(most)
		if err != api.OK || depth != want || g.shown(got) != proof || !sameFound(got, solved.List[0]) {
			t.Errorf("First to the depth %d = %q, %d, error %d; want %q, %d", most, g.shown(got), depth, err, proof, want)
		}
	}
	g.expectNoFirst(t, want-1, api.ErrNone)
}

// expectNoFirst checks that there is no first solution, but an error.
func (g goal) expectNoFirst(t *testing.T, depth int, want api.Errno) {
	t.Helper()
	got, n, err := g.first(depth)
	if err != want || n != 0 || !isEmpty(got) {
		t.Errorf("First to the depth %d = %v, %d, error %d, want %d", depth, got, n, err, want)
	}
}

func TestFirst(t *testing.T) {
	sig := written.Sig(numbers + logic)
	for text, want := range map[string]struct {
		proof string
		depth int
	}{
		"nat":                          {"z", 1},
		"plus z z z":                   {"pz z", 1},
		"plus (s (s z)) z X":           {"ps (s z) z (s z) (ps z z z (pz z))", 3},
		"plus X (s z) (s (s z))":       {"ps z (s z) (s z) (pz (s z))", 2},
		"plus X X X":                   {"pz z", 1},
		"nat -> nat":                   {"[x1] x1", 1},
		"(nat -> plus z z z) -> nat":   {"[x1] z", 1},
		"pf (imp a (imp b a))":         {"ii a (imp b a) ([x1] ii b a ([x2] x1))", 3},
		"{x:pf a} {y:pf b} pf a":       {"[x1] [x2] x1", 1},
		"(o -> pf a) -> pf (imp b a)":  {"[x1] ii b a ([x2] x1 a)", 3},
		"pf a -> pf (imp a b) -> pf X": {"[x1] [x2] x2", 1},
	} {
		goalOf(t, sig, text).expectFirst(t, want.proof, want.depth)
	}
}

func TestFirstErrors(t *testing.T) {
	sig := written.Sig(numbers + logic + "p : nat -> type. pc : p z. void : type. far : p (s z) <- (nat -> nat -> nat).")
	p := written.Constant(sig, "p")
	stuck := goal{sig: sig, metas: []api.Meta{named("F", arrows(1))}, a: c(p, m(0, c(z)))}
	for _, depth := range []int{0, 1, 3} {
		for _, text := range []string{"pf a", "plus (s z) z z", "p (s (s z))", "void", "nat -> void"} {
			goalOf(t, sig, text).expectNoFirst(t, depth, api.ErrNone)
		}
		goal{sig: sig, a: typ()}.expectNoFirst(t, depth, api.ErrNone)
		// All results are stuck.
		stuck.expectNoFirst(t, depth, api.ErrNone)
	}
	// Errors of Solve: at once, or at the depth at which the search comes to them, unless there is a solution before.
	for depth := range 3 {
		goal{sig: sig, ctx: nats(api.MaxCtx), a: arrows(1)}.expectNoFirst(t, depth, api.ErrFull)
	}
	far := goal{sig: sig, ctx: nats(api.MaxCtx - 1), a: c(p, c(s, c(z)))}
	far.expectNoFirst(t, 0, api.ErrNone)
	far.expectNoFirst(t, 1, api.ErrFull)
	far.a = c(p, c(z))
	far.expectFirst(t, "pc", 1)
	for _, depth := range []int{-1, api.MaxSearch + 1, 1 << 62, -1 << 62} {
		goal{sig: sig, a: c(nat)}.expectNoFirst(t, depth, api.ErrArg)
	}
}

// P13.2, P13.3: what loads proofs agrees with what finds them.
func TestLoaded(t *testing.T) {
	sig := written.Sig(numbers)
	proof, class, err := load.Object(sig, "ps (ps pz)", "plus (s (s z)) z (s (s z))")
	if err != api.OK {
		t.Fatalf("Object: error %d", err)
	}
	got, depth, err := search.First(sig, nil, nil, class, api.MaxSearch)
	if err != api.OK || depth != 3 || !term.Same(got.Proof, proof) {
		t.Errorf("First = %v, %d, %d", got, depth, err)
	}
}
