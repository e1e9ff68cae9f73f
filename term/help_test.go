package term

import (
	"reflect"
	"strconv"
	"strings"
	"testing"

	"truss/api"
	"truss/build"
)

var (
	typ = build.Type
	pi  = build.Pi
	lam = build.Lam
	app = build.App
	v   = build.Var
	c   = build.Con
	m   = build.Meta
)

// tower returns a term that is nested as deep as depth says, around an innermost one that is nested 1 deep.
func tower(depth int, innermost api.Term) api.Term {
	t := innermost
	for range depth - 1 {
		t = lam(t)
	}
	return t
}

// broad returns a term with as many nodes as nodes says that is nested 2 deep.
func broad(nodes int) api.Term {
	t := c(0)
	for range nodes - 1 {
		t.Args = append(t.Args, c(1))
	}
	return t
}

// improper returns terms that are not proper.
func improper() map[string]api.Term {
	return map[string]api.Term{
		"nothing":        {},
		"negative Op":    {Op: -1},
		"Op 5":           {Op: 5},
		"type, Head":     {Op: api.TType, Head: api.HVar},
		"type, N":        {Op: api.TType, N: 1},
		"type, Args":     {Op: api.TType, Args: []api.Term{c(0)}},
		"pi, no Args":    {Op: api.TPi},
		"pi, 1 of Args":  {Op: api.TPi, Args: []api.Term{c(0)}},
		"pi, 3 of Args":  {Op: api.TPi, Args: []api.Term{c(0), c(0), c(0)}},
		"pi, Head":       {Op: api.TPi, Head: api.HCon, Args: []api.Term{c(0), c(0)}},
		"pi, N":          {Op: api.TPi, N: 1, Args: []api.Term{c(0), c(0)}},
		"lam, no Args":   {Op: api.TLam},
		"lam, 2 of Args": {Op: api.TLam, Args: []api.Term{c(0), c(0)}},
		"lam, Head":      {Op: api.TLam, Head: api.HMeta, Args: []api.Term{c(0)}},
		"lam, N":         {Op: api.TLam, N: -1, Args: []api.Term{c(0)}},
		"app, no head":   {Op: api.TApp},
		"app, head 4":    {Op: api.TApp, Head: 4},
		"app, head -1":   {Op: api.TApp, Head: -1},
		"variable -1":    v(-1),
		"too great":      c(api.MaxN + 1),
		"within domain":  pi(m(-1), c(0)),
		"within body":    pi(c(0), lam(api.Term{})),
		"within spine":   c(0, c(1), c(2, v(api.MaxN+1)), c(3)),
		"too many nodes": broad(api.MaxNodes + 1),
		"too deep":       tower(api.MaxDepth+1, c(0)),
		"spine too deep": tower(api.MaxDepth, c(0, c(0))),
		"far too many":   broad(100000),
		"far too deep":   tower(100000, c(0)),
		"2^60 leaves":    build.Doubled(60),
		"TPi in itself":  build.Endless(api.TPi),
		"TLam in itself": build.Endless(api.TLam),
	}
}

// wrong calls check with each term that is not proper.
func wrong(t *testing.T, check func(t *testing.T, term api.Term)) {
	for name, term := range improper() {
		t.Run(name, func(t *testing.T) { check(t, term) })
	}
}

// A maker makes terms that look like random ones, always the same.
type maker struct{ seed uint32 }

func (m *maker) below(n int) int {
	m.seed = m.seed*1664525 + 1013904223
	return int(m.seed>>16) % n
}

func (m *maker) term(depth int) api.Term {
	kind := m.below(8)
	if kind == 0 || depth == 1 {
		return []api.Term{typ(), v(m.below(6)), c(m.below(4)), m.meta()}[m.below(4)]
	}
	switch kind {
	case 1, 2:
		domain := m.term(depth - 1)
		return pi(domain, m.term(depth-1))
	case 3, 4:
		return lam(m.term(depth - 1))
	}
	t := app(1+m.below(3), m.below(6))
	for range m.below(4) {
		t.Args = append(t.Args, m.term(depth-1))
	}
	return t
}

func (m *maker) meta() api.Term { return app(api.HMeta, m.below(3)) }

// terms returns some made terms, that are proper.
func terms(count int) []api.Term {
	made := maker{seed: 7}
	var list []api.Term
	for i := range count {
		list = append(list, made.term(1+i%5))
	}
	return list
}

// text writes a term in full, a free variable as what free says of its number, a bound one by the level of its binder.
func text(t api.Term, level int, free func(n int) string) string {
	var b strings.Builder
	b.WriteString(strconv.Itoa(t.Op))
	switch {
	case t.Head == api.HVar && t.N < level:
		b.WriteString("b" + strconv.Itoa(level-1-t.N))
	case t.Head == api.HVar:
		b.WriteString(free(t.N - level))
	default:
		b.WriteString("h" + strconv.Itoa(t.Head) + "n" + strconv.Itoa(t.N))
	}
	b.WriteString("(")
	for i, arg := range t.Args {
		within := level
		if t.Op == api.TLam || t.Op == api.TPi && i == 1 {
			within++
		}
		b.WriteString(text(arg, within, free) + ",")
	}
	b.WriteString(")")
	return b.String()
}

// equal compares terms by their texts.
func equal(a, b api.Term) bool {
	free := func(n int) string { return "f" + strconv.Itoa(n) }
	return text(a, 0, free) == text(b, 0, free)
}

func isZero(t api.Term) bool { return reflect.DeepEqual(t, api.Term{}) }

// spoil changes every node of a term.
func spoil(t *api.Term) {
	for i := range t.Args {
		spoil(&t.Args[i])
	}
	*t = api.Term{Op: -1, Head: -1, N: -1, Args: t.Args[:len(t.Args):len(t.Args)]}
}

// checkNew checks that results share no memory with arguments, nor with one another.
func checkNew(t *testing.T, arguments []api.Term, results ...*api.Term) {
	t.Helper()
	var before []api.Term
	for _, argument := range arguments {
		before = append(before, clone(argument))
	}
	for i := range results {
		var others []api.Term
		for _, other := range results[i+1:] {
			others = append(others, clone(*other))
		}
		spoil(results[i])
		for k, other := range results[i+1:] {
			if !equal(*other, others[k]) {
				t.Errorf("results %d and %d share memory", i, i+1+k)
			}
		}
	}
	for i, argument := range arguments {
		if !equal(argument, before[i]) {
			t.Errorf("a result shares memory with argument %d", i)
		}
	}
}
