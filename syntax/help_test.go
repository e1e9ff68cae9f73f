package syntax

import (
	"reflect"
	"slices"
	"strconv"
	"testing"

	"truss/api"
)

func name(s string) api.Raw { return api.Raw{Op: api.RName, Name: s} }

func app(f, a api.Raw) api.Raw { return pair(api.RApp, f, a) }

func arrow(a, b api.Raw) api.Raw { return pair(api.RArrow, a, b) }

func bind(op int, name string, class, body api.Raw) api.Raw {
	return api.Raw{Op: op, Name: name, Args: []api.Raw{class, body}}
}

func pi(name string, class, body api.Raw) api.Raw { return bind(api.RPi, name, class, body) }

func lam(name string, class, body api.Raw) api.Raw { return bind(api.RLam, name, class, body) }

// typ and hole return new memory, as an expression with itself in several places would hide what shares memory.
func typ() api.Raw { return api.Raw{Op: api.RType} }

func hole() api.Raw { return api.Raw{Op: api.RHole} }

func mustRead(t *testing.T, source string) api.Raw {
	t.Helper()
	r, at, err := Expr(source)
	if err != api.OK || at != 0 {
		t.Fatalf("Expr(%q): %d, %d", source, at, err)
	}
	return r
}

func mustText(t *testing.T, r api.Raw) string {
	t.Helper()
	text, err := Text(r)
	if err != api.OK {
		t.Fatalf("Text(%v): %d", r, err)
	}
	return text
}

// chain returns an expression that is nested as deep as depth says.
func chain(depth int) api.Raw {
	r := name("a")
	for range depth - 1 {
		r = arrow(name("a"), r)
	}
	return r
}

// bush returns an expression with as many nodes as nodes says, an odd number, that is not deep.
func bush(nodes int) api.Raw {
	if nodes == 1 {
		return name("a")
	}
	half := (nodes - 1) / 2
	if half%2 == 0 {
		return app(bush(half-1), bush(half+1))
	}
	return app(bush(half), bush(half))
}

// doubled returns an expression of 2^levels leaves, whose nodes share their arguments.
func doubled(levels int) api.Raw {
	r := name("a")
	for range levels {
		r = app(r, r)
	}
	return r
}

// A maker makes expressions that look like random ones, always the same.
type maker struct{ seed uint32 }

func (m *maker) below(n int) int {
	m.seed = m.seed*1664525 + 1013904223
	return int(m.seed>>16) % n
}

func (m *maker) name() string {
	return []string{"a", "b", "c", "F", "v1", "v2"}[m.below(6)]
}

func (m *maker) raw(depth int) api.Raw {
	op := 1 + m.below(7)
	if depth == 1 {
		op = 1 + m.below(3)
	}
	r := api.Raw{Op: op}
	if op == api.RName || op == api.RPi || op == api.RLam {
		r.Name = m.name()
	}
	if op > api.RHole {
		first := m.raw(depth - 1)
		second := m.raw(depth - 1)
		r.Args = []api.Raw{first, second}
	}
	return r
}

func (m *maker) part(depth int) api.Part {
	p := api.Part{Op: 1 + m.below(8)}
	switch p.Op {
	case api.PName:
		p.Name = m.name()
	case api.PSign:
		p.Sign, p.Name = []string{"+", "-", "*"}[m.below(3)], m.name()
	case api.PNum:
		p.N = m.below(api.MaxNumber + 1)
	case api.PTerm:
		p.Raw = m.raw(3)
	case api.PBind:
		p.Name, p.Raw = m.name(), m.raw(3)
	case api.PMark:
		p.Sign = []string{":", "|", "="}[m.below(3)]
	default:
		for depth > 1 && m.below(4) > 0 {
			p.Parts = append(p.Parts, m.part(depth-1))
		}
	}
	return p
}

// equal compares anything but for empty lists, which may be nil.
func equal(a, b any) bool {
	return reflect.DeepEqual(a, b)
}

func numbered(prefix string, count int) []string {
	var names []string
	for i := range count {
		names = append(names, prefix+strconv.Itoa(i+1))
	}
	return names
}

// spoil changes every node of an expression.
func spoil(r *api.Raw) {
	for i := range r.Args {
		spoil(&r.Args[i])
	}
	*r = api.Raw{Op: -1, Name: "spoilt", Args: slices.Clip(r.Args)}
}
