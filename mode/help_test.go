package mode_test

import (
	"slices"
	"testing"

	"truss/api"
	"truss/build"
	"truss/mode"
	"truss/sign"
	"truss/term"
	"truss/written"
)

var (
	typ    = build.Type
	pi     = build.Pi
	to     = build.To
	lam    = build.Lam
	lams   = build.Lams
	v      = build.Var
	c      = build.Con
	m      = build.Meta
	decl   = build.Decl
	copies = build.Copies
	whole  = build.Whole
)

const (
	nat  = build.Nat
	z    = build.Z
	s    = build.S
	plus = build.Plus
	pz   = build.Pz
	ps   = build.Ps

	in   = api.MIn
	out  = api.MOut
	some = api.MAny

	none = -1
)

// Sources of signatures.
const (
	numbers = "nat : type. z : nat. s : nat -> nat. plus : nat -> nat -> nat -> type. pz : plus z N N. ps : plus (s M) N (s P) <- plus M N P. "
	lambdas = "tp : type. arr : tp -> tp -> tp. one : tp. tm : type. lam : (tm -> tm) -> tm. fun : tp -> (tm -> tm) -> tm. app : tm -> tm -> tm. " +
		"of : tm -> tp -> type. oflam : of (lam [x] E x) (arr A B) <- ({x:tm} of x A -> of (E x) B). " +
		"ofapp : of (app M N) B <- of N A <- of M (arr A B). "
)

// item returns the one item of a source.
func item(source string) api.Item { return written.Items(source)[0] }

// modesOf returns the modes that directives have.
func modesOf(t *testing.T, sig []api.Decl, source string) []api.Mode {
	t.Helper()
	var modes []api.Mode
	for _, x := range written.Items(source) {
		found, err := mode.Read(sig, x)
		if err != api.OK {
			t.Fatalf("Read of %v: error %d", x, err)
		}
		modes = append(modes, found)
	}
	return modes
}

func sameMode(a, b api.Mode) bool { return a.Family == b.Family && slices.Equal(a.Signs, b.Signs) }

func sameTerm(a, b api.Term) bool { return term.Same(a, b) }

func isEmpty(m api.Mode) bool { return m.Family == 0 && len(m.Signs) == 0 }

// expectCheck checks what Check finds in a constant.
func expectCheck(t *testing.T, sig []api.Decl, modes []api.Mode, n, premise, argument int, want api.Errno) {
	t.Helper()
	p, a, err := mode.Check(sig, modes, n)
	if p != premise || a != argument || err != want {
		t.Errorf("Check of %d = %d, %d, error %d; want %d, %d, error %d", n, p, a, err, premise, argument, want)
	}
}

// A fault is what is wrong in a constant.
type fault struct {
	premise, argument int
}

// expectFaults checks what is wrong in the constants of a family with some modes; nothing is in those that are not named.
func expectFaults(t *testing.T, source, modes, family string, faults map[string]fault) {
	t.Helper()
	sig := written.Sig(source)
	list := modesOf(t, sig, modes)
	objects, _ := sign.Of(sig, written.Constant(sig, family))
	first, firstErr := 0, api.OK
	for _, n := range objects {
		f, isWrong := faults[sig[n].Name]
		if !isWrong {
			expectCheck(t, sig, list, n, 0, 0, api.OK)
			continue
		}
		expectCheck(t, sig, list, n, f.premise, f.argument, api.ErrMode)
		if firstErr == api.OK {
			first, firstErr = n, api.ErrMode
		}
	}
	if n, err := mode.All(sig, list, written.Constant(sig, family)); n != first || err != firstErr {
		t.Errorf("All of %s = %d, error %d; want %d, error %d", family, n, err, first, firstErr)
	}
}
