package print_test

import (
	"slices"
	"strconv"
	"testing"

	"truss/api"
	"truss/maker"
	"truss/print"
	"truss/syntax"
	"truss/term"
)

// names returns what is in scope for a signature that has no x1, x2, ...: n variables, and these metavariables.
func names(sig []api.Decl, metas []api.Meta, n int) reading {
	var r reading
	for _, d := range sig {
		r.constants = append(r.constants, d.Name)
	}
	for n, meta := range metas {
		name := meta.Name
		if name == "" {
			name = "M" + strconv.Itoa(n)
		}
		r.metas = append(r.metas, name)
	}
	for i := range n {
		r.variables = append(r.variables, "x"+strconv.Itoa(i+1))
	}
	return r
}

// checkRead checks that a term's raw expression, read again, is the term but for what is left out, and that it has no
// unknown free names. It returns its text, and whether it has one.
func checkRead(t *testing.T, sig []api.Decl, metas []api.Meta, n int, x api.Term) (string, bool) {
	t.Helper()
	raw, err := print.Raw(sig, metas, n, x)
	text, textErr := print.Text(sig, metas, n, x)
	if err != api.OK || textErr != api.OK {
		expect(t, "Text", textErr, err)
		return "", false
	}
	known := names(sig, metas, n)
	if got := known.term(t, raw); !term.Same(got, written(sig, x)) {
		t.Errorf("%v has the text %q, which means %v", x, text, got)
	}
	free, _ := syntax.Free(raw)
	for _, name := range free {
		if !slices.Contains(slices.Concat(known.constants, known.metas, known.variables), name) {
			t.Errorf("%q has the free name %s", text, name)
		}
	}
	if again, _, err := syntax.Expr(text); err != api.OK || !syntax.Same(again, raw) {
		t.Errorf("%q read again is %v, %d", text, again, err)
	}
	return text, true
}

// smallTerms returns all terms of so many nodes whose heads are 3 variables, a metavariable and 3 constants.
func smallTerms(nodes int) []api.Term {
	heads := []api.Term{v(0), v(1), v(2), c(0), c(1), c(2), m(0)}
	if nodes == 1 {
		return append(heads, typ())
	}
	var list []api.Term
	for _, spine := range spines(nodes - 1) {
		for _, head := range heads {
			list = append(list, api.Term{Op: api.TApp, Head: head.Head, N: head.N, Args: spine})
		}
		switch len(spine) {
		case 1:
			list = append(list, lam(spine[0]))
		case 2:
			list = append(list, pi(spine[0], spine[1]))
		}
	}
	return list
}

// spines returns all lists of terms that have so many nodes together.
func spines(nodes int) [][]api.Term {
	if nodes == 0 {
		return [][]api.Term{nil}
	}
	var list [][]api.Term
	for first := 1; first <= nodes; first++ {
		for _, rest := range spines(nodes - first) {
			for _, x := range smallTerms(first) {
				list = append(list, append([]api.Term{x}, rest...))
			}
		}
	}
	return list
}

// P7.4: the same text only for the same terms, but for what is left out; P7.1: all small terms

func TestSmallTerms(t *testing.T) {
	sig := []api.Decl{decl("a", typ()), implicit(1, decl("f", to(c(0), c(0), c(0)))), implicit(2, decl("g", to(c(0), c(0), c(0))))}
	metas := []api.Meta{{Name: "M"}}
	seen := map[string]api.Term{}
	twice := 0
	for nodes := 1; nodes <= 4; nodes++ {
		for _, x := range smallTerms(nodes) {
			text, ok := checkRead(t, sig, metas, 2, x)
			if !ok {
				continue
			}
			if other, known := seen[text]; known {
				twice++
				if !term.Same(written(sig, x), written(sig, other)) {
					t.Errorf("%v and %v have the text %q", x, other, text)
				}
			}
			seen[text] = x
		}
	}
	if len(seen) < 3500 || twice < 500 {
		t.Errorf("only %d texts, %d of them twice", len(seen), twice)
	}
}

// P7.1, P7.4: well typed terms, and spoiled ones

func TestMadeTerms(t *testing.T) {
	made := maker.New(some()[:2])
	right := 0
	for range 6000 {
		ctx := made.Context(5)
		x, a, ok := made.Head(ctx, 4)
		if !ok {
			continue
		}
		for _, y := range []api.Term{x, a, made.Spoiled(x), made.Spoiled(a)} {
			if _, ok := checkRead(t, made.Sig, made.Metas, len(ctx), y); ok {
				right++
			}
		}
	}
	if right < 5000 {
		t.Errorf("only %d terms", right)
	}
}
