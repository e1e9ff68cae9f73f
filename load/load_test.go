package load_test

import (
	"strconv"
	"strings"
	"testing"

	"truss/api"
	"truss/build"
	"truss/check"
	"truss/elab"
	"truss/load"
)

// P11.1: the examples of the document

func TestExamples(t *testing.T) {
	if l := loaded(t, numbers); !load.Same(l, api.Loaded{Sig: build.Numbers()}) {
		t.Errorf("Load = %v", l)
	}
	expectFault(t, api.Loaded{}, "a : type. a : type.", 1, api.ErrTwice)
	l := loaded(t, numbers+vectors+functions)
	if want := build.Whole()[:build.Each]; !load.Same(l, api.Loaded{Sig: want}) {
		t.Errorf("Load = %v, want %v", l, want)
	}
	if n, err := check.Signature(l.Sig); n != build.Each || err != api.OK {
		t.Errorf("Signature = %d, %d", n, err)
	}
}

// P11.1: directives stand after the constants that are before them

func TestDirectives(t *testing.T) {
	for source, want := range map[string][]int{
		"":                               nil,
		"  % nothing\n":                  nil,
		"a : type.":                      nil,
		"%mode.":                         {0},
		"%a. %b. %c.":                    {0, 0, 0},
		"a : type. %mode a.":             {1},
		"%mode a. a : type.":             {0},
		"%a. a : type. %b. %c. b : a.":   {0, 1, 1},
		"a : type. b : a. %a. %b.":       {2, 2},
		"%a. a : type. %b. b : a. %c b.": {0, 1, 2},
	} {
		var declarations []api.Item
		var list []api.Directive
		for _, x := range items(t, source) {
			if x.Word == "" {
				declarations = append(declarations, x)
			} else {
				list = append(list, api.Directive{Item: x, After: len(declarations)})
			}
		}
		l := loaded(t, source)
		if len(l.Sig) != len(declarations) || !load.Same(api.Loaded{Words: l.Words}, api.Loaded{Words: list}) {
			t.Errorf("Load of %q = %v", source, l)
		}
		for i, d := range l.Words {
			if len(l.Words) != len(want) || d.After != want[i] {
				t.Errorf("Load of %q: directives %v, want %v", source, l.Words, want)
			}
		}
		for i, x := range declarations {
			if i < len(l.Sig) && l.Sig[i].Name != x.Name {
				t.Errorf("Load of %q: constant %d is %s", source, i, l.Sig[i].Name)
			}
		}
	}
}

// A directive may be of what is not there: only its form is looked at.
func TestDirectivesAreNotRead(t *testing.T) {
	l := loaded(t, "%mode plus +M (nat -> [x] K x) {N : type} [a {b c} 10000 | =]. nat : type.")
	if len(l.Words) != 1 || len(l.Words[0].Item.Parts) != 5 {
		t.Errorf("Load = %v", l)
	}
}

// P11.1: what is there before

func TestMore(t *testing.T) {
	first := loaded(t, numbers+directives)
	l, at, err := load.More(first, "%a. "+vectors+" %b z.")
	want := loaded(t, numbers+directives+" %a. "+vectors+" %b z.")
	if err != api.OK || at != 0 || !load.Same(l, want) {
		t.Errorf("More = %v, %d, %d", l, at, err)
	}
	for _, source := range []string{"", "% nothing"} {
		if l, at, err := load.More(want, source); err != api.OK || at != 0 || !load.Same(l, want) {
			t.Errorf("More with %q = %v, %d, %d", source, l, at, err)
		}
	}
	// A signature that is formed is enough: the kernel does not look at it again.
	odd := api.Loaded{Sig: []api.Decl{decl("a", typ()), decl("b", c(0, c(0)))}, Words: words(1)}
	l, at, err = load.More(odd, "c : a -> a. %mode c.")
	if err != api.OK || at != 0 || len(l.Sig) != 3 || len(l.Words) != 2 || l.Words[0].After != 0 || l.Words[1].After != 3 {
		t.Errorf("More = %v, %d, %d", l, at, err)
	}
	// Positions are those of items of the new source.
	expectFault(t, first, "z : nat.", 0, api.ErrTwice)
	expectFault(t, first, "k : nat. %mode k. %total k. k : nat.", 3, api.ErrTwice)
}

// P11.1: errors of the reader come first, with their positions

func TestReaderErrors(t *testing.T) {
	wide := strings.Repeat(" a", api.MaxRaw/2+1)
	for source, want := range map[string]int{
		"a : type. b":               11,
		"a : type. b : a":           15,
		"a : type. b : a ->.":       18,
		"a : type. A : type.":       10,
		"a : k. b : ].":             11,
		"a : type. a : type. &":     20,
		"a : type. a : type. 01":    20,
		"a : k. %Mode.":             7,
		"a : k. type : type.":       7,
		"%total {N M} (plus M N P)": 25,
	} {
		expectFault(t, api.Loaded{}, source, want, api.ErrSyntax)
		expectFault(t, loaded(t, numbers), source, want, api.ErrSyntax)
	}
	for _, source := range []string{
		strings.Repeat(" ", api.MaxSource+1),
		"a : k. " + strings.Repeat(" ", api.MaxSource),
		"a : k. " + strings.Repeat("%a. ", api.MaxItems),
		"a : k. b : a" + wide + ".",
		"a : k. b : a" + strings.Repeat(" -> a", api.MaxDepth) + ".",
		"a : k. %mode" + strings.Repeat(" a", api.MaxRaw+1) + ".",
		"a : k. %mode" + strings.Repeat("{", api.MaxDepth+1) + strings.Repeat("}", api.MaxDepth+1) + ".",
	} {
		expectFault(t, api.Loaded{}, source, 0, api.ErrFull)
		expectFault(t, loaded(t, numbers), source, 0, api.ErrFull)
	}
}

// P11.1: errors of items, with the position of the first one

func TestItemErrors(t *testing.T) {
	for source, want := range map[string]api.Errno{
		"k : nat -> k.":                 api.ErrName,
		"z : nat.":                      api.ErrTwice,
		"k : type -> type.":             api.ErrLevel,
		"k : z.":                        api.ErrLevel,
		"k : plus z z.":                 api.ErrShape,
		"k : plus z (s s) z.":           api.ErrShape,
		"k : {x} nat.":                  api.ErrOpen,
		"k : {x:nat} plus x (E z) N.":   api.ErrOpen,
		"k : plus nat z z.":             api.ErrLevel,
		"k : {x:nat} plus X x x -> tm.": api.ErrName,
		"k : {x:nat} dd x D.":           api.ErrScope,
		"k : ({x:plus X X X} plus (E x) (E x) (E x)) -> plus (E z) z z.": api.ErrClash,
	} {
		before := loaded(t, numbers+"dd : {x:nat} plus x x x -> type.")
		_, err := elab.Declare(before.Sig, "k", items(t, source)[0].Raw)
		if want != api.ErrTwice && err != want {
			t.Errorf("Declare of %q: error %d, want %d", source, err, want)
		}
		expectFault(t, before, source, 0, want)
		expectFault(t, before, "a : type. "+source, 1, want)
		expectFault(t, before, "a : type. %mode a. "+source+" "+source+" b : k.", 2, want)
		expectFault(t, before, source+" a : k. z : nat.", 0, want)
		expectFault(t, api.Loaded{}, numbers+"dd : {x:nat} plus x x x -> type."+directives+source, 9, want)
	}
	expectFault(t, loaded(t, numbers), "a : k. z : nat.", 0, api.ErrName)
	expectFault(t, loaded(t, numbers), "z : nat. a : k.", 0, api.ErrTwice)
	// What stands after it is not known.
	expectFault(t, api.Loaded{}, "a : b. b : type.", 0, api.ErrName)
	expectFault(t, api.Loaded{}, "%mode b. a : type. c : b. b : type.", 2, api.ErrName)
}

// P11.1: limits

func TestLimits(t *testing.T) {
	// A source of MaxSource bytes is loaded.
	source := numbers + directives
	l := loaded(t, source+strings.Repeat(" ", api.MaxSource-len(source)))
	if !load.Same(l, loaded(t, source)) {
		t.Errorf("Load = %v", l)
	}
	expectFault(t, api.Loaded{}, source+strings.Repeat(" ", api.MaxSource-len(source)+1), 0, api.ErrFull)

	// MaxItems items, of which MaxDecls are declarations.
	declared := "a : type."
	for n := range api.MaxDecls - 1 {
		declared += " x" + strconv.Itoa(n) + " : a."
	}
	rest := api.MaxItems - api.MaxDecls
	l = loaded(t, declared+strings.Repeat(" %w a.", rest))
	if len(l.Sig) != api.MaxDecls || len(l.Words) != rest || l.Words[0].After != api.MaxDecls {
		t.Errorf("Load = %v", l)
	}
	expectFault(t, api.Loaded{}, declared+strings.Repeat(" %w a.", rest+1), 0, api.ErrFull)
	expectFault(t, api.Loaded{}, declared+" y : a.", api.MaxDecls, api.ErrFull)
	expectFault(t, api.Loaded{}, declared+" %w. a : type.", api.MaxDecls+1, api.ErrTwice)
	expectFault(t, l, "y : a.", 0, api.ErrFull)
}

// P11.1: MaxItems directives

func TestManyDirectives(t *testing.T) {
	full := loaded(t, strings.Repeat("%w. ", api.MaxItems))
	if len(full.Words) != api.MaxItems {
		t.Errorf("Load = %v", full)
	}
	if l, _, err := load.More(full, "a : type. b : a."); err != api.OK || len(l.Sig) != 2 || len(l.Words) != api.MaxItems {
		t.Errorf("More = %v, %d", l, err)
	}
	expectFault(t, full, "%w.", 0, api.ErrFull)
	expectFault(t, full, "a : type. b : a. %w. c : a.", 2, api.ErrFull)
	expectFault(t, full, "a : type. a : a. %w. c : a.", 1, api.ErrTwice)
	expectFault(t, full, "a : type. %w. a : type.", 1, api.ErrFull)
	expectFault(t, full, "a : type. %w. a", 15, api.ErrSyntax)
	almost := loaded(t, strings.Repeat("%w. ", api.MaxItems-1))
	if l, _, err := load.More(almost, "a : type. %w. b : a."); err != api.OK || l.Words[api.MaxItems-1].After != 1 {
		t.Errorf("More = %v, %d", l, err)
	}
	expectFault(t, almost, "a : type. %w. b : a. %w.", 3, api.ErrFull)
}

// P11.1: what is not formed, before all other errors

func TestUnformed(t *testing.T) {
	for name, l := range unformed() {
		for _, source := range []string{"", "a : type.", "a", "&", strings.Repeat(" ", api.MaxSource+1)} {
			if got, at, err := load.More(l, source); !isEmpty(got) || at != 0 || err != api.ErrArg {
				t.Errorf("More after %s: %v, %d, %d", name, got, at, err)
			}
		}
		if text, err := load.Text(l); text != "" || err != api.ErrArg {
			t.Errorf("Text of %s = %q, %d", name, text, err)
		}
	}
	right := api.Loaded{Sig: build.Flat(api.MaxDecls), Words: words(api.MaxItems)}
	for n := range right.Words {
		right.Words[n].After = min(n, api.MaxDecls)
	}
	if l, _, err := load.More(right, ""); err != api.OK || !load.Same(l, right) {
		t.Errorf("More = %v, %d", l, err)
	}
}

// Rule 4 of DOC.md

func TestMemory(t *testing.T) {
	l := loaded(t, numbers+"%w (nat -> nat) {a b} {A : nat}. "+directives)
	again := loaded(t, numbers+"%w (nat -> nat) {a b} {A : nat}. "+directives)
	l.Sig, l.Words = append(l.Sig, build.Flat(3)...)[:len(l.Sig)], append(l.Words, words(3)...)[:len(l.Words)]
	for _, source := range []string{"", "k : nat -> nat. %k."} {
		longer, _, err := load.More(l, source)
		if err != api.OK || !load.Same(l, again) || l.Sig[:7][6].Name != "a" || l.Words[:4][3].Item.Word != "mode" {
			t.Fatalf("More with %q changes its argument: %v, %d", source, l, err)
		}
		for n := range longer.Sig {
			longer.Sig[n].Name = "changed"
		}
		for n := range longer.Words {
			spoil(&longer.Words[n].Item)
		}
		if !load.Same(l, again) {
			t.Errorf("More with %q shares memory: %v", source, l)
		}
		longer, _, _ = load.More(l, source)
		if !build.Apart(build.Classes(l.Sig), build.Classes(longer.Sig)) {
			t.Errorf("More with %q shares memory", source)
		}
	}
}

// spoil changes all memory that an item has.
func spoil(x *api.Item) {
	x.Word = "changed"
	var spoilRaw func(r *api.Raw)
	spoilRaw = func(r *api.Raw) {
		r.Name += "changed"
		for i := range r.Args {
			spoilRaw(&r.Args[i])
		}
	}
	var spoilParts func(parts []api.Part)
	spoilParts = func(parts []api.Part) {
		for i := range parts {
			parts[i].Name += "changed"
			spoilRaw(&parts[i].Raw)
			spoilParts(parts[i].Parts)
		}
	}
	spoilRaw(&x.Raw)
	spoilParts(x.Parts)
}
