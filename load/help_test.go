package load_test

import (
	"slices"
	"strings"
	"testing"

	"truss/api"
	"truss/build"
	"truss/load"
	"truss/syntax"
	"truss/term"
)

var (
	typ  = build.Type
	pi   = build.Pi
	to   = build.To
	lam  = build.Lam
	v    = build.Var
	c    = build.Con
	m    = build.Meta
	decl = build.Decl
)

const (
	nat   = build.Nat
	z     = build.Z
	s     = build.S
	plus  = build.Plus
	pz    = build.Pz
	ps    = build.Ps
	empty = build.Empty
	cons  = build.Cons
)

// The sources of the examples of DOC.md.
const (
	numbers    = "nat : type. z : nat. s : nat -> nat. plus : nat -> nat -> nat -> type. pz : plus z N N. ps : plus (s M) N (s P) <- plus M N P."
	vectors    = "vec : nat -> type. empty : vec z. cons : nat -> vec N -> vec (s N)."
	functions  = "tm : type. lam : (tm -> tm) -> tm. app : tm -> tm -> tm. step : tm -> tm -> type. beta : step (app (lam [x] E x) M) (E M)."
	directives = "%mode plus +M +N -P. %total M (plus M N P)."
)

// loaded returns what a source is that has no error.
func loaded(t *testing.T, source string) api.Loaded {
	t.Helper()
	l, at, err := load.Load(source)
	if err != api.OK || at != 0 {
		t.Fatalf("Load of %q: error %d at %d", source, err, at)
	}
	return l
}

// items returns the items of a source that has no error.
func items(t *testing.T, source string) []api.Item {
	t.Helper()
	list, at, err := syntax.Items(source)
	if err != api.OK {
		t.Fatalf("Items of %q: error %d at %d", source, err, at)
	}
	return list
}

// words returns so many directives before all constants.
func words(count int) []api.Directive {
	word := api.Directive{Item: api.Item{Word: "mode", Parts: []api.Part{{Op: api.PName, Name: "plus"}}}}
	return slices.Repeat([]api.Directive{word}, count)
}

func isEmpty(l api.Loaded) bool { return len(l.Sig) == 0 && len(l.Words) == 0 }

// expectFault checks that a source after another one has this error, at this position, and no other result.
func expectFault(t *testing.T, before api.Loaded, source string, wantAt int, want api.Errno) {
	t.Helper()
	shown := source[:min(len(source), 80)]
	if l, at, err := load.More(before, source); !isEmpty(l) || at != wantAt || err != want {
		t.Errorf("More with %q = %v, %d, %d; want error %d at %d", shown, l, at, err, want, wantAt)
	}
	if !isEmpty(before) {
		return
	}
	if l, at, err := load.Load(source); !isEmpty(l) || at != wantAt || err != want {
		t.Errorf("Load of %q = %v, %d, %d; want error %d at %d", shown, l, at, err, want, wantAt)
	}
}

func expectTerm(t *testing.T, name string, got api.Term, err api.Errno, want api.Term, wantErr api.Errno) {
	t.Helper()
	if err != wantErr || !term.Same(got, want) {
		t.Errorf("%s = %v, %d; want %v, %d", name, got, err, want, wantErr)
	}
}

// unformed returns loaded sources that are not formed.
func unformed() map[string]api.Loaded {
	mode := words(1)[0].Item
	sig := build.Numbers()
	wrong := func(x api.Item) api.Loaded { return api.Loaded{Sig: sig, Words: []api.Directive{{Item: x}}} }
	after := func(positions ...int) api.Loaded {
		l := api.Loaded{Sig: sig}
		for _, n := range positions {
			l.Words = append(l.Words, api.Directive{Item: mode, After: n})
		}
		return l
	}
	deep := api.Part{Op: api.PName, Name: "a"}
	for range 100000 {
		deep = api.Part{Op: api.PLex, Parts: []api.Part{deep}}
	}
	list := map[string]api.Loaded{
		"no Word":               wrong(api.Item{}),
		"a declaration":         wrong(api.Item{Name: "k", Raw: api.Raw{Op: api.RType}}),
		"a Word and a Name":     wrong(api.Item{Word: "mode", Name: "k"}),
		"a Word and a Raw":      wrong(api.Item{Word: "mode", Raw: api.Raw{Op: api.RType}}),
		"a capital Word":        wrong(api.Item{Word: "Mode"}),
		"a part that is none":   wrong(api.Item{Word: "mode", Parts: []api.Part{{}}}),
		"parts, too deep":       wrong(api.Item{Word: "mode", Parts: []api.Part{deep}}),
		"parts, too many":       wrong(api.Item{Word: "mode", Parts: slices.Repeat(mode.Parts, api.MaxRaw+1)}),
		"too many directives":   {Sig: sig, Words: words(api.MaxItems + 1)},
		"many more directives":  {Words: words(100000)},
		"After -1":              after(-1),
		"After -1, later":       after(0, -1),
		"After all, and more":   after(7),
		"After falls":           after(2, 3, 2),
		"After falls to 0":      after(1, 0),
		"After, last too great": after(0, 6, 7),
		"no constants, After 1": {Words: []api.Directive{{Item: mode, After: 1}}},
		"a name twice":          {Sig: append(build.Numbers(), decl("s", c(nat)))},
		"a constant after":      {Sig: []api.Decl{decl("a", c(1)), decl("b", typ())}},
		"a metavariable":        {Sig: []api.Decl{decl("a", m(0))}},
		"too many constants":    {Sig: build.Flat(api.MaxDecls + 1)},
		"many more constants":   {Sig: make([]api.Decl, 100000)},
		"Implicit":              {Sig: []api.Decl{build.Implicit(1, decl("a", typ()))}},
	}
	for i, class := range build.Improper() {
		list["improper "+strings.Repeat("I", i)] = api.Loaded{Sig: []api.Decl{decl("a", class)}}
	}
	return list
}
