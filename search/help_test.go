package search_test

import (
	"slices"
	"testing"

	"truss/api"
	"truss/build"
	"truss/check"
	"truss/elab"
	"truss/meta"
	"truss/print"
	"truss/search"
	"truss/term"
	"truss/written"
)

var (
	typ    = build.Type
	pi     = build.Pi
	to     = build.To
	lam    = build.Lam
	lams   = build.Lams
	v      = build.Var
	c      = build.Con
	m      = build.Meta
	decl   = build.Decl
	hole   = build.Hole
	named  = build.Named
	copies = build.Copies
	whole  = build.Whole
	nats   = build.Nats
	arrows = build.Arrows
)

const (
	nat  = build.Nat
	z    = build.Z
	s    = build.S
	plus = build.Plus
	pz   = build.Pz
	ps   = build.Ps
	vec  = build.Vec
	tm   = build.Tm
)

// Sources of signatures.
const (
	numbers = "nat : type. z : nat. s : nat -> nat. plus : nat -> nat -> nat -> type. pz : plus z N N. ps : plus (s M) N (s P) <- plus M N P. "
	logic   = "o : type. imp : o -> o -> o. pf : o -> type. ii : pf (imp A B) <- (pf A -> pf B). a : o. b : o. "
	lambdas = "tm : type. lam : (tm -> tm) -> tm. app : tm -> tm -> tm. tp : type. arr : tp -> tp -> tp. one : tp. of : tm -> tp -> type. " +
		"oflam : of (lam [x] E x) (arr A B) <- ({x:tm} of x A -> of (E x) B). ofapp : of (app M N) B <- of M (arr A B) <- of N A. "
)

// A goal is a type in a context, with metavariables.
type goal struct {
	sig   []api.Decl
	metas []api.Meta
	ctx   []api.Term
	a     api.Term
}

// goalOf returns the goal that a text is.
func goalOf(t *testing.T, sig []api.Decl, text string) goal {
	t.Helper()
	metas, a, err := elab.Query(sig, written.Raw(text))
	if err != api.OK {
		t.Fatalf("Query of %q: error %d", text, err)
	}
	return goal{sig, metas, nil, a}
}

func (g goal) solve(depth, most int) (api.Answers, api.Errno) {
	return search.Solve(g.sig, g.metas, g.ctx, g.a, depth, most)
}

// An answer is what Solve should come to: the texts of the solutions, with all arguments.
type answer struct {
	proofs []string
	cut    bool
	stuck  int
}

// shown returns the text of the object of a solution, with all arguments.
func (g goal) shown(found api.Found) string {
	explicit := slices.Clone(g.sig)
	for n := range explicit {
		explicit[n].Implicit = 0
	}
	text, err := print.Text(explicit, found.Metas, len(g.ctx), found.Proof)
	if err != api.OK {
		return "an object that has no text"
	}
	return text
}

// expect checks what Solve comes to, and that it is right.
func (g goal) expect(t *testing.T, depth, most int, want answer) api.Answers {
	t.Helper()
	got, err := g.solve(depth, most)
	var proofs []string
	for _, found := range got.List {
		proofs = append(proofs, g.shown(found))
		g.expectSound(t, found, depth)
	}
	if err != api.OK || !slices.Equal(proofs, want.proofs) || got.Cut != want.cut || got.Stuck != want.stuck {
		t.Errorf("Solve to the depth %d = %q, %v, %d, error %d; want %q, %v, %d", depth, proofs, got.Cut, got.Stuck, err, want.proofs, want.cut, want.stuck)
	}
	return got
}

// expectSound checks that the object of a solution is one of the goal, and not higher than the depth.
func (g goal) expectSound(t *testing.T, found api.Found, depth int) {
	t.Helper()
	if n, err := meta.Typed(g.sig, found.Metas); err != api.OK {
		t.Errorf("the metavariable %d of a solution: error %d", n, err)
	}
	var ctx []api.Term
	for _, a := range g.ctx {
		ctx = append(ctx, resolved(t, found.Metas, a))
	}
	if err := check.Object(g.sig, found.Metas, ctx, found.Proof, resolved(t, found.Metas, g.a)); err != api.OK {
		t.Errorf("%s is no object of the goal: error %d", g.shown(found), err)
	}
	if n, err := search.Height(g.sig, ctx, found.Proof); n > depth || err != api.OK {
		t.Errorf("the height of %s is %d, error %d; the depth %d", g.shown(found), n, err, depth)
	}
	if all, err := meta.All(found.Metas); err != api.OK || !build.SameMetas(all, found.Metas) || !term.Same(found.Proof, resolved(t, found.Metas, found.Proof)) {
		t.Errorf("the solution %v is not resolved", found)
	}
}

func resolved(t *testing.T, metas []api.Meta, x api.Term) api.Term {
	t.Helper()
	result, err := meta.Resolve(metas, x)
	if err != api.OK {
		t.Errorf("Resolve of %v: error %d", x, err)
	}
	return result
}

// expectError checks that Solve has an error, and no other result.
func (g goal) expectError(t *testing.T, depth, most int, want api.Errno) {
	t.Helper()
	if got, err := g.solve(depth, most); err != want || !isNothing(got) {
		t.Errorf("Solve to the depth %d = %v, error %d, want %d", depth, got, err, want)
	}
}

func isNothing(a api.Answers) bool { return len(a.List) == 0 && !a.Cut && a.Stuck == 0 }

func isEmpty(f api.Found) bool { return len(f.Metas) == 0 && term.Same(f.Proof, api.Term{}) }

// sameFound reports whether two solutions are the same.
func sameFound(a, b api.Found) bool {
	return build.SameMetas(a.Metas, b.Metas) && term.Same(a.Proof, b.Proof)
}

func expectErr(t *testing.T, name string, got, want api.Errno) {
	t.Helper()
	if got != want {
		t.Errorf("%s: error %d, want %d", name, got, want)
	}
}
