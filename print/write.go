package print

import (
	"strconv"

	"truss/api"
	"truss/syntax"
	"truss/term"
)

// A writer makes raw expressions. Its names are those of variables, by their positions in scope.
type writer struct {
	sig   []api.Decl
	metas []api.Meta
	names []string
}

// newWriter returns a writer with so many variables in scope that stand for implicit arguments.
func newWriter(sig []api.Decl, metas []api.Meta, implicit int) writer {
	return writer{sig, metas, variableNames(sig, implicit)}
}

func declaration(sig []api.Decl, d api.Decl) (api.Item, api.Errno) {
	w := newWriter(sig, nil, d.Implicit)
	// The parts that are not written are checked, too.
	if err := w.checkHeads(d.Class, 0); err != api.OK {
		return api.Item{}, err
	}
	written := d.Class
	for range d.Implicit {
		written = written.Args[1]
	}
	r, err := w.expression(written, d.Implicit)
	if err != api.OK {
		return api.Item{}, err
	}
	return api.Item{Name: d.Name, Raw: r}, api.OK
}

// typing returns the text of a type of a context, with the name of its variable, which n others are before.
func (w writer) typing(a api.Term, n int) (string, api.Errno) {
	r, err := w.expression(a, n)
	if err != api.OK {
		return "", err
	}
	if len(w.names[n]) > api.MaxName {
		return "", api.ErrFull
	}
	text, _ := syntax.Text(r)
	return w.names[n] + ":" + text, api.OK
}

// expression returns the raw expression of a proper term with n variables in scope, if all its heads and it are right.
func (w writer) expression(t api.Term, n int) (api.Raw, api.Errno) {
	if err := w.checkHeads(t, n); err != api.OK {
		return api.Raw{}, err
	}
	r := w.raw(t, n)
	if syntax.Check(r) != api.OK {
		return api.Raw{}, api.ErrFull
	}
	return r, api.OK
}

// raw returns the raw expression of a term with n variables in scope.
func (w writer) raw(t api.Term, n int) api.Raw {
	switch t.Op {
	case api.TPi:
		return w.product(t, n)
	case api.TLam:
		return node(api.RLam, w.names[n], node(api.RHole, ""), w.raw(t.Args[0], n+1))
	case api.TApp:
		return w.application(t, n)
	}
	return node(api.RType, "")
}

func (w writer) product(t api.Term, n int) api.Raw {
	domain, body := w.raw(t.Args[0], n), t.Args[1]
	// That it can be shifted says that the variable does not occur in it.
	if without, err := term.Shift(body, -1, 0); err == api.OK {
		return node(api.RArrow, "", domain, w.raw(without, n))
	}
	return node(api.RPi, w.names[n], domain, w.raw(body, n+1))
}

func (w writer) application(t api.Term, n int) api.Raw {
	written := t.Args[w.implicit(t):]
	apply := func(f api.Raw, object api.Term) api.Raw {
		return node(api.RApp, "", f, w.raw(object, n))
	}
	return fold(node(api.RName, w.headName(t, n)), apply, written...)
}

func (w writer) headName(t api.Term, n int) string {
	switch t.Head {
	case api.HVar:
		return w.names[n-1-t.N]
	case api.HCon:
		return w.sig[t.N].Name
	}
	if name := w.metas[t.N].Name; name != "" {
		return name
	}
	return "M" + strconv.Itoa(t.N)
}

// implicit returns how many arguments of a term's head are left out.
func (w writer) implicit(t api.Term) int {
	if t.Head == api.HCon {
		return w.sig[t.N].Implicit
	}
	return 0
}

func node(op int, name string, args ...api.Raw) api.Raw {
	return api.Raw{Op: op, Name: name, Args: args}
}

// fold returns what join makes of a first value and the items, one after the other.
func fold[T, R any](first R, join func(R, T) R, items ...T) R {
	for _, item := range items {
		first = join(first, item)
	}
	return first
}
