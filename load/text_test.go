package load_test

import (
	"strings"
	"testing"

	"truss/api"
	"truss/build"
	"truss/load"
	"truss/syntax"
)

// P11.2: texts

func TestText(t *testing.T) {
	for _, x := range [][2]string{
		{"", ""},
		{numbers, "nat : type.\nz : nat.\ns : nat -> nat.\nplus : nat -> nat -> nat -> type.\npz : plus z X1 X1.\nps : plus X1 X2 X3 -> plus (s X1) X2 (s X3).\n"},
		{"%b . %a( a->b ){N:a}{N M}[ N ].", "%b.\n%a (a -> b) {N:a} {N M} [N].\n"},
		{"%a. a:type. %b 1 + N. %c. b:a. %d : |.", "%a.\na : type.\n%b 1 +N.\n%c.\nb : a.\n%d : |.\n"},
		{"a : type. c : {x:a} a. b : {x : a} a -> a. %x (b).", "a : type.\nc : a -> a.\nb : a -> a -> a.\n%x (b).\n"},
	} {
		text, err := load.Text(loaded(t, x[0]))
		if text != x[1] || err != api.OK {
			t.Errorf("Text of %q = %q, %d; want %q", x[0], text, err, x[1])
		}
	}
	if lines := strings.Split(mustText(t, loaded(t, numbers)), "\n"); lines[4] != "pz : plus z X1 X1." {
		t.Errorf("the fifth line is %q", lines[4])
	}
}

func mustText(t *testing.T, l api.Loaded) string {
	t.Helper()
	text, err := load.Text(l)
	if err != api.OK {
		t.Fatalf("Text: error %d", err)
	}
	return text
}

// P11.2: errors of what is printed

func TestTextErrors(t *testing.T) {
	// An implicit argument is not there; the raw expression is too large.
	shape := decl("k", c(plus, c(pz), c(z), c(z)))
	large := decl("l", c(nat, build.Copies(api.MaxRaw/2, c(z))...))
	for _, x := range []struct {
		sig  []api.Decl
		want api.Errno
	}{
		{[]api.Decl{shape}, api.ErrShape},
		{[]api.Decl{large}, api.ErrFull},
		{[]api.Decl{large, shape}, api.ErrFull},
		{[]api.Decl{shape, large}, api.ErrShape},
		{[]api.Decl{decl("k", c(pz))}, api.ErrArg},
	} {
		l := api.Loaded{Sig: append(build.Numbers(), x.sig...), Words: words(2)}
		if text, err := load.Text(l); text != "" || err != x.want {
			t.Errorf("Text = %q, %d; want error %d", text, err, x.want)
		}
	}
	// A text may be longer than a source.
	l := api.Loaded{Sig: build.Flat(api.MaxDecls), Words: longWords(t, api.MaxItems)}
	if text := mustText(t, l); len(text) <= api.MaxSource || strings.Count(text, "\n") != api.MaxDecls+api.MaxItems {
		t.Errorf("Text has %d bytes", len(text))
	}
}

// longWords returns so many long directives.
func longWords(t *testing.T, count int) []api.Directive {
	t.Helper()
	list := words(count)
	for n := range list {
		list[n].Item = items(t, "%w"+strings.Repeat(" abc", 30)+".")[0]
		if syntax.CheckItem(list[n].Item) != api.OK {
			t.Fatal("the directive is wrong")
		}
	}
	return list
}
