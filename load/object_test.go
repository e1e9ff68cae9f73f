package load_test

import (
	"strings"
	"testing"

	"truss/api"
	"truss/build"
	"truss/check"
	"truss/load"
)

// unformedSigs returns signatures that are not formed.
func unformedSigs() [][]api.Decl {
	var list [][]api.Decl
	for _, l := range unformed() {
		if len(l.Words) == 0 {
			list = append(list, l.Sig)
		}
	}
	return list
}

// num returns the object of a number of Whole.
func num(n int) api.Term {
	t := c(z)
	for range n {
		t = c(s, t)
	}
	return t
}

// P11.3: types

func TestType(t *testing.T) {
	sig := build.Whole()
	for class, want := range map[string]api.Term{
		"nat":                        c(nat),
		" % a comment\nnat ":         c(nat),
		"nat -> nat":                 to(c(nat), c(nat)),
		"plus z (s z) (s z)":         c(plus, c(z), num(1), num(1)),
		"{x:nat} plus x x x":         pi(c(nat), c(plus, v(0), v(0), v(0))),
		"plus z z z <- nat":          to(c(nat), c(plus, c(z), c(z), c(z))),
		"vec _ -> nat":               {},
		"step (app (lam [x] x) _) _": {},
	} {
		got, err := load.Type(sig, class)
		wantErr := api.OK
		if want.Op == 0 {
			wantErr = api.ErrOpen
		}
		expectTerm(t, "Type of "+class, got, err, want, wantErr)
	}
}

func TestTypeErrors(t *testing.T) {
	sig := build.Whole()
	for class, want := range map[string]api.Errno{
		"":                                    api.ErrSyntax,
		"nat.":                                api.ErrSyntax,
		"nat nat ->":                          api.ErrSyntax,
		"k : nat.":                            api.ErrSyntax,
		"&":                                   api.ErrSyntax,
		"k ]":                                 api.ErrSyntax,
		strings.Repeat(" ", api.MaxSource+1):  api.ErrFull,
		strings.Repeat("nat -> ", 40) + "nat": api.ErrFull,
		"vec" + strings.Repeat(" z", 200):     api.ErrFull,
		"type":                                api.ErrLevel,
		"nat -> type":                         api.ErrLevel,
		"{x:nat} type":                        api.ErrLevel,
		"z":                                   api.ErrLevel,
		"k":                                   api.ErrName,
		"vec k":                               api.ErrName,
		"vec":                                 api.ErrShape,
		"vec z z":                             api.ErrShape,
		"vec empty":                           api.ErrClash,
		"plus X z z":                          api.ErrOpen,
		"plus X _ z":                          api.ErrOpen,
		"vec (F z)":                           api.ErrOpen,
		"{x:nat} vec (F x) -> vec (F z)":      api.ErrOpen,
		"{x} nat":                             api.ErrOpen,
	} {
		got, err := load.Type(sig, class)
		expectTerm(t, "Type of "+class, got, err, api.Term{}, want)
		// The errors of the type are those of Object, too, before those of elab for the object.
		for _, object := range []string{"z", "k", "type", "s s"} {
			x, a, err := load.Object(sig, object, class)
			expectTerm(t, "Object at "+class, x, err, api.Term{}, want)
			expectTerm(t, "the type "+class, a, err, api.Term{}, want)
		}
	}
	for _, sig := range unformedSigs() {
		for _, class := range []string{"nat", "type", "]", strings.Repeat(" ", api.MaxSource+1)} {
			got, err := load.Type(sig, class)
			expectTerm(t, "Type", got, err, api.Term{}, api.ErrArg)
			for _, object := range []string{"z", "]"} {
				x, a, err := load.Object(sig, object, class)
				expectTerm(t, "Object", x, err, api.Term{}, api.ErrArg)
				expectTerm(t, "the type", a, err, api.Term{}, api.ErrArg)
			}
		}
	}
}

// P11.3: objects

func TestObject(t *testing.T) {
	sig := build.Whole()
	proof := c(ps, num(1), c(z), num(1), c(ps, c(z), c(z), c(z), c(pz, c(z))))
	for _, x := range []struct {
		object, class string
		want, a       api.Term
	}{
		{"ps (ps pz)", "plus (s (s z)) z (s (s z))", proof, c(plus, num(2), c(z), num(2))},
		{"z", "nat", c(z), c(nat)},
		{"[x] s x", "nat -> nat", lam(c(s, v(0))), to(c(nat), c(nat))},
		{"s", "nat -> nat", lam(c(s, v(0))), to(c(nat), c(nat))},
		{"[x:nat] x", "nat -> nat", lam(v(0)), to(c(nat), c(nat))},
		{"cons z empty", "vec (s z)", c(cons, c(z), c(z), c(empty)), c(build.Vec, num(1))},
		{"[x] [y] y", "{x:nat} plus x x x -> plus x x x", lam(lam(v(0))), to(c(nat), c(plus, v(0), v(0), v(0)), c(plus, v(1), v(1), v(1)))},
		{"cons _ empty <- % no\n", "vec (s z)", api.Term{}, api.Term{}},
	} {
		wantErr := api.OK
		if x.want.Op == 0 {
			wantErr = api.ErrSyntax
		}
		got, a, err := load.Object(sig, x.object, x.class)
		expectTerm(t, "Object "+x.object, got, err, x.want, wantErr)
		expectTerm(t, "the type "+x.class, a, err, x.a, wantErr)
		if err != api.OK {
			continue
		}
		if err := check.Object(sig, nil, nil, got, a); err != api.OK {
			t.Errorf("Object %s: error %d of the kernel", x.object, err)
		}
		if !build.Apart(build.Classes(sig), []api.Term{got, a}) {
			t.Errorf("Object %s shares memory", x.object)
		}
	}
}

func TestObjectErrors(t *testing.T) {
	sig := build.Whole()
	for _, x := range []struct {
		object, class string
		want          api.Errno
	}{
		{"ps pz", "plus z z z", api.ErrClash},
		{"type", "nat", api.ErrLevel},
		{"nat", "nat", api.ErrLevel},
		{"k", "nat", api.ErrName},
		{"s", "nat", api.ErrShape},
		{"[x] x", "nat", api.ErrShape},
		{"s z z", "nat", api.ErrShape},
		{"_", "nat", api.ErrOpen},
		{"X", "nat", api.ErrOpen},
		{"s _", "nat", api.ErrOpen},
		{"([x] x) z", "nat", api.ErrOpen},
		{"cons _ empty", "vec (s z)", api.ErrOpen},
		{"[x] X", "nat -> nat", api.ErrOpen},
		{"empty", "vec (s z)", api.ErrClash},
		{"", "nat", api.ErrSyntax},
		{"z.", "nat", api.ErrSyntax},
		{"s" + strings.Repeat(" z", 200), "nat", api.ErrFull},
		{strings.Repeat("%", api.MaxSource+1), "nat", api.ErrFull},
		// The errors of reading come before all others, those of the type first.
		{"]", strings.Repeat(" ", api.MaxSource+1), api.ErrFull},
		{strings.Repeat(" ", api.MaxSource+1), "]", api.ErrSyntax},
		{"]", "k", api.ErrSyntax},
		{"]", "type", api.ErrSyntax},
		{"]", "vec _", api.ErrSyntax},
		{strings.Repeat(" ", api.MaxSource+1), "k", api.ErrFull},
		{"k", "]", api.ErrSyntax},
	} {
		got, a, err := load.Object(sig, x.object, x.class)
		expectTerm(t, "Object "+x.object+" at "+x.class, got, err, api.Term{}, x.want)
		expectTerm(t, "the type "+x.class, a, err, api.Term{}, x.want)
	}
}

// P11.3: texts of terms

func TestShow(t *testing.T) {
	sig := build.Whole()
	for _, x := range []struct {
		t    api.Term
		text string
		want api.Errno
	}{
		{typ(), "type", api.OK},
		{num(2), "s (s z)", api.OK},
		{c(ps, num(1), c(z), num(1), c(pz, c(z))), "ps pz", api.OK},
		{lam(c(s, v(0))), "[x1] s x1", api.OK},
		{to(c(nat), c(nat)), "nat -> nat", api.OK},
		{pi(c(nat), c(build.Vec, v(0))), "{x1:nat} vec x1", api.OK},
		{v(0), "", api.ErrScope},
		{lam(v(1)), "", api.ErrScope},
		{m(0), "", api.ErrScope},
		{c(s, m(0)), "", api.ErrScope},
		{c(len(sig)), "", api.ErrScope},
		{c(pz), "", api.ErrShape},
		{c(nat, build.Copies(api.MaxRaw/2, c(z))...), "", api.ErrFull},
	} {
		got, err := load.Show(sig, x.t)
		if got != x.text || err != x.want {
			t.Errorf("Show = %q, %d; want %q, %d", got, err, x.text, x.want)
		}
	}
	for _, x := range build.Improper() {
		if got, err := load.Show(sig, x); got != "" || err != api.ErrArg {
			t.Errorf("Show = %q, %d", got, err)
		}
	}
	for _, sig := range unformedSigs() {
		if got, err := load.Show(sig, c(nat)); got != "" || err != api.ErrArg {
			t.Errorf("Show = %q, %d", got, err)
		}
	}
}
