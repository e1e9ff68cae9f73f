package elab_test

import (
	"testing"

	"truss/api"
	"truss/elab"
	"truss/equate"
	"truss/maker"
	"truss/meta"
	"truss/scope"
	"truss/term"
)

// wild returns any raw expression that is nested at most so deep.
func (w writer) wild(depth int) api.Raw {
	names := []string{"nat", "z", "s", "plus", "pz", "ps", "vec", "empty", "cons", "tm", "lam", "app", "step", "beta", "each", "x1", "x2", "x3", "N", "F", "V", "K", "L", "E", "k"}
	name := names[w.Below(len(names))]
	kind := w.Below(14)
	if depth == 1 {
		kind = w.Below(6)
	}
	switch kind {
	case 0, 1, 2, 3:
		return api.Raw{Op: api.RName, Name: name}
	case 4:
		return api.Raw{Op: api.RHole}
	case 5:
		return api.Raw{Op: api.RType}
	case 6:
		return api.Raw{Op: api.RPi, Name: name, Args: []api.Raw{w.wild(depth - 1), w.wild(depth - 1)}}
	case 7:
		return api.Raw{Op: api.RArrow, Args: []api.Raw{w.wild(depth - 1), w.wild(depth - 1)}}
	case 8:
		return api.Raw{Op: api.RLam, Name: name, Args: []api.Raw{w.wild(depth - 1), w.wild(depth - 1)}}
	case 9:
		return api.Raw{Op: api.RLam, Name: name, Args: []api.Raw{{Op: api.RHole}, w.wild(depth - 1)}}
	}
	return api.Raw{Op: api.RApp, Args: []api.Raw{w.wild(depth - 1), w.wild(depth - 1)}}
}

// spoiled returns metavariables some of which are not well typed.
func (w writer) spoiled() []api.Meta {
	list := metas()
	for range w.Below(4) {
		n := w.Below(len(list))
		value, ok := w.Object(nil, list[n].Class, 3)
		switch {
		case w.Below(2) == 0:
			list[n].Class = w.Spoiled(list[n].Class)
		case ok:
			list[n].Solved, list[n].Value = true, w.Spoiled(value)
		}
	}
	return list
}

// P10.1, P10.2: whatever is written, at whatever type: there is a result, and the state is one again

func TestWild(t *testing.T) {
	w := writer{maker.New(metas())}
	errors := map[api.Errno]int{}
	expectState := func(sig []api.Decl, p api.Problem, x api.Term, err api.Errno) {
		errors[err]++
		if err == api.OK && (!equate.Accept(sig, p.Metas, p.Left) || !scope.IsOver(p.Metas, x)) {
			t.Errorf("the result %v in the state %v is none", x, p)
		}
	}
	for range 20000 {
		ctx := w.Context(3)
		x, a, ok := w.Head(ctx, 3)
		p := api.Problem{Metas: w.spoiled()}
		if !ok || meta.Check(p.Metas) != api.OK {
			continue
		}
		if w.Below(2) == 0 {
			p.Left = list(api.Equation{Ctx: ctx, A: w.Spoiled(x), B: x, Class: a})
		}
		if b := w.Spoiled(a); w.Below(2) == 0 && term.Check(b) == api.OK {
			a = b
		}
		if !equate.Accept(w.Sig, p.Metas, p.Left) || !scope.IsOver(p.Metas, a) {
			continue
		}
		r := w.wild(5)
		after, object, err := elab.Object(w.Sig, p, ctx, variables(len(ctx)), r, a)
		expectState(w.Sig, after, object, err)
		after, class, err := elab.Type(w.Sig, p, ctx, variables(len(ctx)), r)
		expectState(w.Sig, after, class, err)
		class, _, err = elab.Class(w.Sig, r)
		expectState(w.Sig, api.Problem{}, class, err)
	}
	if errors[api.ErrArg] > 0 {
		t.Errorf("%d times ErrArg", errors[api.ErrArg])
	}
	for _, err := range []api.Errno{api.OK, api.ErrName, api.ErrLevel, api.ErrShape, api.ErrOpen, api.ErrClash, api.ErrScope} {
		if errors[err] < 10 {
			t.Errorf("only %d times error %d", errors[err], err)
		}
	}
}
