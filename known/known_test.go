package known_test

import (
	"slices"
	"testing"

	"truss/api"
	"truss/build"
	"truss/known"
	"truss/stop"
	"truss/term"
)

var (
	c = build.Con
	m = build.Meta
	v = build.Var
)

const (
	z   = build.Z
	s   = build.S
	vec = build.Vec
)

// number returns the state of one number that is not known, and of a function.
func number() known.State {
	return known.State{Sig: build.Whole(), Metas: []api.Meta{build.Named("N", c(build.Nat)), build.Named("F", build.Arrows(1))}}
}

// P10.1, P13.2: what is demanded; a copy of the state stays as it is

func TestDemand(t *testing.T) {
	start := number()
	for _, x := range []struct {
		a, b        api.Term
		value       api.Term
		left        int
		want        api.Errno
		description string
	}{
		{c(vec, m(0)), c(vec, c(z)), c(z), 0, api.OK, "decided"},
		{c(vec, m(1, c(z))), c(vec, c(z)), api.Term{}, 1, api.OK, "left"},
		{c(vec, c(z)), c(vec, c(s, m(0))), api.Term{}, 0, api.ErrClash, "different"},
		{c(vec, c(z)), c(build.Nat), api.Term{}, 0, api.ErrClash, "of different families"},
		{build.Type(), c(vec, c(s)), api.Term{}, 0, api.ErrLevel, "no types"},
		{c(vec), c(vec, c(z)), api.Term{}, 0, api.ErrShape, "of different lengths"},
		{c(vec, m(0)), c(vec, v(0)), api.Term{}, 0, api.ErrScope, "of a variable"},
	} {
		state := start
		after, err := stop.Result(func() known.State {
			state.Demand(build.Nats(1), x.a, x.b)
			return state
		})
		if err != x.want || err == api.OK && (!term.Same(after.Metas[0].Value, x.value) || len(after.Left) != x.left) {
			t.Errorf("Demand of what is %s: %v, error %d", x.description, after, err)
		}
		if start.Metas[0].Solved || len(start.Left) > 0 {
			t.Errorf("Demand of what is %s has changed a copy", x.description)
		}
	}
}

// Equations that are left are decided with those that are demanded.
func TestDemandLater(t *testing.T) {
	state := number()
	left, err := stop.Result(func() int {
		state.Demand(nil, c(vec, m(1, c(z))), c(vec, m(0)))
		left := len(state.Left)
		state.Demand(build.Nats(1), c(vec, m(1, v(0))), c(vec, c(s, v(0))))
		return left
	})
	if err != api.OK || left != 0 || !term.Same(state.Metas[0].Value, c(s, c(z))) {
		t.Errorf("the state is %v, error %d", state, err)
	}
	state = number()
	left, err = stop.Result(func() int {
		state.Demand(nil, c(vec, m(1, c(z))), c(vec, c(z)))
		left := len(state.Left)
		state.Demand(build.Nats(1), c(vec, m(1, v(0))), c(vec, v(0)))
		return left
	})
	if err != api.OK || left != 1 || len(state.Left) != 0 || !term.Same(state.Metas[1].Value, build.Lam(v(0))) {
		t.Errorf("the state is %v, error %d", state, err)
	}
	state = number()
	_, err = stop.Result(func() int {
		state.Demand(nil, c(vec, m(1, c(z))), c(vec, c(z)))
		state.Demand(build.Nats(1), c(vec, m(1, v(0))), c(vec, c(s, v(0))))
		return 0
	})
	if err != api.ErrClash {
		t.Errorf("the state is %v, error %d", state, err)
	}
}

func TestLimits(t *testing.T) {
	state := number()
	state.Left = slices.Repeat([]api.Equation{{A: m(1, c(z)), B: c(z), Class: c(build.Nat)}}, api.MaxLeft)
	for _, x := range []struct {
		a, b api.Term
		want api.Errno
	}{{c(build.Nat), c(build.Nat), api.OK}, {c(vec, c(z)), c(vec, c(z)), api.ErrFull}, {c(vec, c(z)), c(build.Nat), api.ErrClash}} {
		copied := state
		_, err := stop.Result(func() int {
			copied.Demand(nil, x.a, x.b)
			return 0
		})
		if err != x.want {
			t.Errorf("Demand of %v and %v: error %d, want %d", x.a, x.b, err, x.want)
		}
	}
}

// P10.2, P13.2: new metavariables, and what is resolved

func TestFresh(t *testing.T) {
	start := number()
	start.Metas[0].Solved, start.Metas[0].Value = true, c(z)
	state := start
	object, err := stop.Result(func() api.Term { return state.Fresh("X", build.Nats(2), c(vec, m(0))) })
	if err != api.OK || len(state.Metas) != 3 || len(start.Metas) != 2 || state.Metas[2].Name != "X" || !term.Same(object, m(2, v(1), v(0))) {
		t.Errorf("Fresh = %v, error %d; the state is %v", object, err, state)
	}
	resolved, err := stop.Result(func() api.Term { return state.Resolved(c(s, m(0))) })
	if err != api.OK || !term.Same(resolved, c(s, c(z))) {
		t.Errorf("Resolved = %v, error %d", resolved, err)
	}
	state.Left = []api.Equation{{Ctx: []api.Term{c(vec, m(0))}, A: m(0), B: m(1, m(0)), Class: c(build.Nat)}}
	p, err := stop.Result(func() api.Problem { return state.Problem() })
	want := api.Equation{Ctx: []api.Term{c(vec, c(z))}, A: c(z), B: m(1, c(z)), Class: c(build.Nat)}
	if err != api.OK || !build.SameProblem(p, api.Problem{Metas: state.Metas, Left: []api.Equation{want}}) {
		t.Errorf("Problem = %v, error %d", p, err)
	}
	for _, wrong := range []struct {
		name string
		a    api.Term
		want api.Errno
	}{{"X", c(build.Nat), api.ErrTwice}, {"", build.Type(), api.ErrLevel}, {"", c(vec, v(9)), api.ErrScope}, {"x", c(build.Nat), api.ErrArg}} {
		if _, err := stop.Result(func() api.Term { return state.Fresh(wrong.name, nil, wrong.a) }); err != wrong.want || len(state.Metas) != 3 {
			t.Errorf("Fresh of %v: error %d, want %d", wrong.a, err, wrong.want)
		}
	}
}
