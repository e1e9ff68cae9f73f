package elab_test

import (
	"slices"
	"strconv"
	"testing"

	"truss/api"
	"truss/check"
	"truss/elab"
	"truss/lexis"
	"truss/maker"
	"truss/meta"
	"truss/print"
	"truss/term"
)

// metas returns metavariables with names whose Classes are types over whole.
func metas() []api.Meta {
	n := c(nat)
	return []api.Meta{
		named("N", n), named("F", arrows(1)), named("V", to(n, c(vec, v(0)))), named("W", c(vec, c(s, m(0)))), named("P", c(plus, c(z), m(0), m(0))),
		named("T", c(tm)), named("E", to(c(tm), c(tm))), named("L", to(to(c(tm), c(tm)), c(tm))),
	}
}

// variables returns the names that package print gives to so many variables.
func variables(count int) []string {
	var names []string
	for n := range count {
		names = append(names, "x"+strconv.Itoa(n+1))
	}
	return names
}

// explicit returns whole without implicit arguments.
func explicit() []api.Decl {
	sig := whole()
	for n := range sig {
		sig[n].Implicit = 0
	}
	return sig
}

// P10.2: what is printed is reconstructed, with and without implicit arguments

func TestPrintedObjects(t *testing.T) {
	made := maker.New(metas())
	count, omitted := 0, 0
	for range 4000 {
		ctx := made.Context(4)
		x, a, ok := made.Head(ctx, 4)
		if !ok {
			continue
		}
		for _, sig := range [][]api.Decl{whole(), explicit()} {
			r, err := print.Raw(sig, made.Metas, len(ctx), x)
			if err != api.OK {
				continue
			}
			p, got, err := elab.Object(sig, api.Problem{Metas: made.Metas}, ctx, variables(len(ctx)), r, a)
			if err == api.ErrFull {
				continue
			}
			expectTerm(t, "Object of what is printed", got, err, x, api.OK)
			if len(p.Left) > 0 {
				t.Errorf("Object of %v leaves %v", x, p.Left)
			}
			expect(t, "Object for the kernel", check.Object(sig, p.Metas, ctx, got, a), api.OK)
			count++
			if len(p.Metas) > len(made.Metas) {
				omitted++
			}
		}
	}
	if count < 4000 || omitted < 100 {
		t.Errorf("only %d objects, %d with omitted arguments", count, omitted)
	}
}

func TestPrintedTypes(t *testing.T) {
	made := maker.New(nil)
	sig := explicit()
	count := 0
	for range 3000 {
		ctx := made.Context(3)
		a, ok := made.Class(ctx, 4)
		if !ok {
			continue
		}
		r, err := print.Raw(sig, nil, len(ctx), a)
		if err != api.OK {
			continue
		}
		_, got, err := elab.Type(sig, api.Problem{}, ctx, variables(len(ctx)), r)
		expectTerm(t, "Type of what is printed", got, err, a, api.OK)
		if len(ctx) == 0 {
			got, n, err := elab.Class(sig, r)
			expectTerm(t, "Class of what is printed", got, err, a, api.OK)
			_, query, err := elab.Query(sig, r)
			expectTerm(t, "Query of what is printed", query, err, a, api.OK)
			if n != 0 {
				t.Errorf("Class of %v has %d implicit arguments", a, n)
			}
		}
		count++
	}
	if count < 1200 {
		t.Errorf("only %d types", count)
	}
}

// A writer makes raw expressions with omitted parts.
type writer struct {
	*maker.Maker
}

// renamed returns a raw expression with other names of bound variables, and other capital names.
func renamed(r api.Raw, names map[string]string, count int) api.Raw {
	result := api.Raw{Op: r.Op, Name: r.Name}
	if name, ok := names[r.Name]; ok && r.Op == api.RName {
		result.Name = name
	} else if lexis.IsCapital(r.Name) && r.Op == api.RName {
		result.Name = "Other" + r.Name
	}
	if r.Op != api.RPi && r.Op != api.RLam {
		for _, arg := range r.Args {
			result.Args = append(result.Args, renamed(arg, names, count))
		}
		return result
	}
	// A small name that no constant has, or a capital one that is no other one.
	result.Name = []string{"y", "Y"}[count%2] + strconv.Itoa(count)
	inner := map[string]string{r.Name: result.Name}
	for from, to := range names {
		if from != r.Name {
			inner[from] = to
		}
	}
	result.Args = []api.Raw{renamed(r.Args[0], names, count), renamed(r.Args[1], inner, count+1)}
	return result
}

// P10.4: what is reconstructed passes the kernel; P10.5: names decide nothing

func TestOmitted(t *testing.T) {
	w := writer{maker.New(nil)}
	errors := map[api.Errno]int{}
	implicit := 0
	for range 12000 {
		a, ok := w.Class(nil, 4)
		sig := whole()
		if w.Below(2) == 0 {
			sig = explicit()
		}
		r, err := print.Raw(sig, nil, 0, a)
		if !ok || err != api.OK {
			continue
		}
		r = w.Omitting(r, nil)
		class, n, err := elab.Class(sig, r)
		errors[err]++
		again, k, againErr := elab.Class(sig, renamed(r, nil, 0))
		expectTerm(t, "Class with other names", again, againErr, class, err)
		list, query, queryErr := elab.Query(sig, r)
		if err != api.OK {
			continue
		}
		open := len(slices.DeleteFunc(slices.Clone(list), func(x api.Meta) bool { return x.Solved }))
		if n != k || n > open {
			t.Errorf("Class of %v has %d and %d implicit arguments; Query has %v", r, n, k, list)
		}
		expect(t, "Type of the class", check.Type(sig, nil, nil, class), api.OK)
		expect(t, "Query", queryErr, api.OK)
		expect(t, "Type of the query", check.Type(sig, list, nil, query), api.OK)
		if left, _ := term.Metas(class); len(left) > 0 {
			t.Errorf("Class of %v = %v", r, class)
		}
		if n > 0 {
			implicit++
		}
	}
	if errors[api.OK] < 2000 || implicit < 1000 || errors[api.ErrClash] < 30 || errors[api.ErrOpen] < 30 || errors[api.ErrShape] < 30 {
		t.Errorf("only %v, %d with implicit arguments", errors, implicit)
	}
}

func resolved(metas []api.Meta, a api.Term) api.Term {
	result, _ := meta.Resolve(metas, a)
	return result
}

// P10.4: objects with omitted parts, in a context, with metavariables that are known

func TestOmittedInObjects(t *testing.T) {
	w := writer{maker.New(metas()[:5])}
	errors := map[api.Errno]int{}
	left := 0
	for range 12000 {
		ctx := w.Context(3)
		x, a, ok := w.Head(ctx, 4)
		sig := whole()
		r, err := print.Raw(sig, w.Metas, len(ctx), x)
		if !ok || err != api.OK {
			continue
		}
		names := variables(len(ctx))
		p, got, err := elab.Object(sig, api.Problem{Metas: w.Metas}, ctx, names, w.Omitting(r, names), a)
		errors[err]++
		if err != api.OK {
			continue
		}
		if len(p.Left) > 0 {
			left++
			continue
		}
		expect(t, "Object for the kernel", check.Object(sig, p.Metas, ctx, got, resolved(p.Metas, a)), api.OK)
	}
	if errors[api.OK] < 3000 || errors[api.ErrClash] < 8 || errors[api.ErrShape] < 8 || errors[api.ErrScope] < 8 || left < 8 {
		t.Errorf("only %v, %d with equations that are left", errors, left)
	}
}
