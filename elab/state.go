package elab

import (
	"truss/api"
	"truss/known"
	"truss/stop"
)

// A state is what is known of what is omitted. Its methods are the judgements; errors end the reconstruction.
type state struct {
	known.State
}

func newState(sig []api.Decl, p api.Problem) *state {
	return &state{known.State{Sig: sig, Metas: p.Metas, Left: p.Left}}
}

// reconstruct returns what a judgement comes to, and the state after it, all resolved.
func reconstruct(sig []api.Decl, p api.Problem, judge func(*state) api.Term) (api.Problem, api.Term, api.Errno) {
	var result api.Term
	after, err := stop.Result(func() api.Problem {
		s := newState(sig, p)
		t := judge(s)
		after := s.Problem()
		result = s.Resolved(t)
		return after
	})
	return after, result, err
}

// close ends a whole expression, in which nothing may be undecided.
func (s *state) close() {
	if len(s.Left) > 0 {
		stop.At(api.ErrOpen)
	}
}
