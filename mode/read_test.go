package mode_test

import (
	"slices"
	"strconv"
	"testing"

	"truss/api"
	"truss/build"
	"truss/mode"
	"truss/written"
)

// expectRead checks the signs of a directive.
func expectRead(t *testing.T, sig []api.Decl, source string, want ...int) {
	t.Helper()
	x := item(source)
	got, err := mode.Read(sig, x)
	if err != api.OK || got.Family != written.Constant(sig, x.Parts[0].Name) || !slices.Equal(got.Signs, want) {
		t.Errorf("Read of %q = %v, %d; want %v", source, got, err, want)
	}
}

// P14.1: Read

func TestRead(t *testing.T) {
	sig := written.Sig(numbers + "rel : type. vec : nat -> type. eq : vec N -> vec N -> type. two : vec M -> vec N -> type. sum : {a:vec N} {b:vec M} plus N M P -> vec P -> type. far : {p:plus N N N} vec M -> type.")
	expectRead(t, sig, "%mode plus +M +N -P.", in, in, out)
	expectRead(t, sig, "%mode plus -M *N +P.", out, some, in)
	expectRead(t, sig, "%mode plus *a *a *a.", some, some, some)
	expectRead(t, sig, "%mode nat.")
	expectRead(t, sig, "%mode rel.")
	expectRead(t, sig, "%mode vec -N.", out)
	// Implicit arguments: + before -, and - before *.
	expectRead(t, sig, "%mode eq +A +B.", in, in, in)
	expectRead(t, sig, "%mode eq +A -B.", in, in, out)
	expectRead(t, sig, "%mode eq -A +B.", in, out, in)
	expectRead(t, sig, "%mode eq -A *B.", out, out, some)
	expectRead(t, sig, "%mode eq *A -B.", out, some, out)
	expectRead(t, sig, "%mode eq *A +B.", in, some, in)
	expectRead(t, sig, "%mode eq *A *B.", some, some, some)
	expectRead(t, sig, "%mode two +A -B.", in, out, in, out)
	expectRead(t, sig, "%mode two *A -B.", some, out, some, out)
	expectRead(t, sig, "%mode far *P -A.", some, out, some, out)
	// N, M and P of sum: in which domains they occur.
	expectRead(t, sig, "%mode sum +A -B *D *R.", in, out, some, in, out, some, some)
	expectRead(t, sig, "%mode sum -A *B +D -R.", in, in, in, out, some, in, out)
	expectRead(t, sig, "%mode sum *A *B *D +R.", some, some, in, some, some, some, in)
	// What is no domain of an argument that is written, but of one that is not, decides nothing.
	sig = []api.Decl{decl("n", typ()), decl("v", to(c(0), typ())), build.Implicit(2, decl("p", pi(c(0), pi(c(1, v(0)), pi(c(1, v(1)), pi(c(0), typ()))))))}
	expectRead(t, sig, "%mode p +A -B.", in, some, in, out)
	expectRead(t, sig, "%mode p *A -B.", some, some, some, out)
	sig[2].Class = pi(c(0), pi(c(1, v(0)), pi(c(1, v(0)), pi(c(0), typ()))))
	expectRead(t, sig, "%mode p +A -B.", some, in, in, out)
}

// expectNoMode checks that an item has no mode, but an error.
func expectNoMode(t *testing.T, sig []api.Decl, x api.Item, want api.Errno) {
	t.Helper()
	if got, err := mode.Read(sig, x); err != want || !isEmpty(got) {
		t.Errorf("Read of %v = %v, %d; want error %d", x, got, err, want)
	}
}

func TestReadErrors(t *testing.T) {
	sig := written.Sig(numbers + "vec : nat -> type. eq : vec N -> vec N -> type.")
	for source, want := range map[string]api.Errno{
		"%total plus +M +N -P.":    api.ErrArg,
		"%modes plus +M +N -P.":    api.ErrArg,
		"plus : nat.":              api.ErrArg,
		"%mode.":                   api.ErrArg,
		"%mode +plus +M +N -P.":    api.ErrArg,
		"%mode plus +M +N P.":      api.ErrArg,
		"%mode plus +M +N -P 3.":   api.ErrArg,
		"%mode plus +M +N (P).":    api.ErrArg,
		"%mode plus {+M +N -P}.":   api.ErrArg,
		"%mode k M.":               api.ErrArg,
		"%mode 3 +M.":              api.ErrArg,
		"%mode (plus M N P).":      api.ErrArg,
		"%mode plus : +M +N -P.":   api.ErrArg,
		"%mode k +M.":              api.ErrName,
		"%mode k.":                 api.ErrName,
		"%mode Plus +M +N -P.":     api.ErrName,
		"%mode z.":                 api.ErrLevel,
		"%mode pz +N.":             api.ErrLevel,
		"%mode s +M +N.":           api.ErrLevel,
		"%mode plus.":              api.ErrShape,
		"%mode plus +M +N.":        api.ErrShape,
		"%mode plus +M +N -P *Q.":  api.ErrShape,
		"%mode nat +N.":            api.ErrShape,
		"%mode eq +N +A +B.":       api.ErrShape,
		"%mode eq +A.":             api.ErrShape,
		"%mode eq +A +B +C +D +E.": api.ErrShape,
	} {
		expectNoMode(t, sig, item(source), want)
	}
	right := item("%mode plus +M +N -P.")
	sign := func(text, name string) api.Part { return api.Part{Op: api.PSign, Sign: text, Name: name} }
	for _, parts := range [][]api.Part{
		{{Op: api.PName, Name: "type"}}, {{Op: api.PName, Name: "plus", N: 1}}, {right.Parts[0], sign("+", "M"), sign("+", "N"), sign("", "P")},
		{right.Parts[0], sign("+", "M"), sign("+", "N"), sign(":", "P")}, {right.Parts[0], sign("+", "M"), sign("+", "N"), sign("+", "_")}, {{}}, {{}, {}},
		append(right.Parts[:1:1], slices.Repeat([]api.Part{sign("+", "M")}, api.MaxRaw)...),
	} {
		expectNoMode(t, sig, api.Item{Word: "mode", Parts: parts}, api.ErrArg)
	}
	expectNoMode(t, sig, api.Item{Word: "mode", Name: "plus", Parts: right.Parts}, api.ErrArg)
	expectNoMode(t, sig, api.Item{Parts: right.Parts}, api.ErrArg)
	expectNoMode(t, sig, api.Item{}, api.ErrArg)
	// As many parts as an item may have.
	many := append(right.Parts[:1:1], slices.Repeat([]api.Part{sign("+", "M")}, api.MaxRaw-1)...)
	expectNoMode(t, sig, api.Item{Word: "mode", Parts: many}, api.ErrShape)
	for _, unformed := range build.Unformed() {
		expectNoMode(t, unformed, right, api.ErrArg)
		expectNoMode(t, unformed, item("%mode k."), api.ErrArg)
	}
}

// expectItem checks the directive of a mode, and that it is read as the mode.
func expectItem(t *testing.T, sig []api.Decl, m api.Mode, want string) {
	t.Helper()
	got, err := mode.Item(sig, m)
	x := item(want)
	if err != api.OK || got.Word != x.Word || got.Name != "" || !slices.EqualFunc(got.Parts, x.Parts, samePart) {
		t.Errorf("Item of %v = %v, %d; want %q", m, got, err, want)
	}
	if again, err := mode.Read(sig, got); err != api.OK || !sameMode(again, m) {
		t.Errorf("Read of Item of %v = %v, %d", m, again, err)
	}
}

func samePart(a, b api.Part) bool {
	return a.Op == b.Op && a.Sign == b.Sign && a.Name == b.Name && a.N == b.N && a.Raw.Op == b.Raw.Op && len(a.Parts) == len(b.Parts)
}

// P14.1: Item

func TestItem(t *testing.T) {
	sig := written.Sig(numbers + "vec : nat -> type. eq : vec N -> vec N -> type.")
	eq := written.Constant(sig, "eq")
	expectItem(t, sig, api.Mode{Family: plus, Signs: []int{in, in, out}}, "%mode plus +X1 +X2 -X3.")
	expectItem(t, sig, api.Mode{Family: plus, Signs: []int{some, out, in}}, "%mode plus *X1 -X2 +X3.")
	expectItem(t, sig, api.Mode{Family: nat}, "%mode nat.")
	expectItem(t, sig, api.Mode{Family: eq, Signs: []int{in, out, in}}, "%mode eq -X1 +X2.")
	expectItem(t, sig, api.Mode{Family: eq, Signs: []int{some, some, some}}, "%mode eq *X1 *X2.")
	// As many arguments as a family can have.
	const most = api.MaxDepth - 1
	wide := []api.Decl{decl("n", typ()), decl("wide", to(append(copies(most, c(0)), typ())...))}
	x, err := mode.Item(wide, api.Mode{Family: 1, Signs: slices.Repeat([]int{out}, most)})
	if err != api.OK || len(x.Parts) != most+1 || x.Parts[most].Name != "X"+strconv.Itoa(most) || x.Parts[most].Sign != "-" {
		t.Errorf("Item = %v, %d", x, err)
	}
}

func TestItemErrors(t *testing.T) {
	sig := written.Sig(numbers + "vec : nat -> type. eq : vec N -> vec N -> type.")
	eq := written.Constant(sig, "eq")
	wrong := []api.Mode{
		// No directive has this sign of the implicit argument.
		{Family: eq, Signs: []int{out, in, out}}, {Family: eq, Signs: []int{some, in, some}}, {Family: eq, Signs: []int{in, out, out}}, {Family: eq, Signs: []int{in, some, some}},
		{Family: eq, Signs: []int{some, out, some}},
	}
	for _, m := range append(wrong, notModes()...) {
		if got, err := mode.Item(sig, m); err != api.ErrArg || got.Word != "" || len(got.Parts) > 0 {
			t.Errorf("Item of %v = %v, %d", m, got, err)
		}
	}
	for _, unformed := range build.Unformed() {
		if got, err := mode.Item(unformed, api.Mode{}); err != api.ErrArg || got.Word != "" || len(got.Parts) > 0 {
			t.Errorf("Item = %v, %d", got, err)
		}
	}
}

// notModes returns what is no mode over a signature that begins with that of numbers.
func notModes() []api.Mode {
	return []api.Mode{
		{Family: -1}, {Family: 1000}, {Family: 1 << 62}, {Family: -1 << 62}, {Family: z}, {Family: ps, Signs: []int{in, in, in, in}}, {Family: s, Signs: []int{in}},
		{Family: plus}, {Family: plus, Signs: []int{in, in}}, {Family: plus, Signs: []int{in, in, out, out}}, {Family: nat, Signs: []int{in}}, {Family: plus, Signs: make([]int, 100000)},
		{Family: plus, Signs: []int{in, in, 0}}, {Family: plus, Signs: []int{4, in, in}}, {Family: plus, Signs: []int{in, -1, out}}, {Family: plus, Signs: []int{in, in, 1 << 62}},
	}
}

// P14.1: Of

func TestOf(t *testing.T) {
	sig := written.Sig(numbers + "vec : nat -> type.")
	vec := written.Constant(sig, "vec")
	modes := modesOf(t, sig, "%mode plus +M +N -P. %mode nat.")
	for family, want := range map[int]api.Mode{plus: modes[0], nat: modes[1]} {
		got, err := mode.Of(sig, modes, family)
		if err != api.OK || !sameMode(got, want) {
			t.Errorf("Of %d = %v, %d", family, got, err)
		}
	}
	for _, n := range []int{vec, z, ps, -1, len(sig), 1 << 62} {
		for _, list := range [][]api.Mode{modes, nil} {
			if got, err := mode.Of(sig, list, n); err != api.ErrNone || !isEmpty(got) {
				t.Errorf("Of %d = %v, %d", n, got, err)
			}
		}
	}
}

// P14.1: Inputs

func TestInputs(t *testing.T) {
	args := []api.Term{v(1), c(s, v(2)), lam(v(0)), typ()}
	for _, x := range []struct{ signs, want []int }{
		{[]int{in, in, in, in}, []int{0, 1, 2, 3}}, {[]int{out, in, some, in}, []int{1, 3}}, {[]int{out, out, out, out}, nil}, {[]int{0, -1, 1 << 62, 4}, nil}, {[]int{7, in, -1 << 62, 2}, []int{1}},
	} {
		var want []api.Term
		for _, at := range x.want {
			want = append(want, args[at])
		}
		// Whatever the family is, and whatever the arguments are.
		for _, family := range []int{0, -1, 1000} {
			got, err := mode.Inputs(api.Mode{Family: family, Signs: x.signs}, args)
			if err != api.OK || !slices.EqualFunc(got, want, sameTerm) {
				t.Errorf("Inputs of %v = %v, %d; want %v", x.signs, got, err, want)
			}
		}
	}
	if got, err := mode.Inputs(api.Mode{}, nil); err != api.OK || len(got) > 0 {
		t.Errorf("Inputs = %v, %d", got, err)
	}
	for _, signs := range [][]int{nil, {in}, {in, in, in}, {in, in, in, in, in}, make([]int, 100000)} {
		if got, err := mode.Inputs(api.Mode{Signs: signs}, args); err != api.ErrArg || len(got) > 0 {
			t.Errorf("Inputs of %v = %v, %d", signs, got, err)
		}
	}
	deep := lams(100000, c(0))
	if got, err := mode.Inputs(api.Mode{Signs: []int{in, out}}, []api.Term{deep, {}}); err != api.OK || len(got) != 1 || !sameTerm(got[0], deep) {
		t.Errorf("Inputs have the error %d", err)
	}
}
