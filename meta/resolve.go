package meta

import (
	"truss/api"
	"truss/subst"
	"truss/term"
)

// A resolver replaces the solved metavariables of a formed list. Each value is resolved but once: where values contain
// each other, it would be done far too often otherwise.
type resolver struct {
	metas  []api.Meta
	values map[int]api.Term
}

func newResolver(metas []api.Meta) resolver {
	return resolver{metas, map[int]api.Term{}}
}

// resolve returns the resolved term.
func (r resolver) resolve(t api.Term) (api.Term, api.Errno) {
	resolved := api.Term{Op: t.Op, Head: t.Head, N: t.N}
	for _, arg := range t.Args {
		next, err := r.resolve(arg)
		if err != api.OK {
			return api.Term{}, err
		}
		resolved.Args = append(resolved.Args, next)
	}
	if t.Head == api.HMeta && r.metas[t.N].Solved {
		return r.apply(t.N, resolved.Args)
	}
	if term.Check(resolved) != api.OK {
		return api.Term{}, api.ErrFull
	}
	return resolved, api.OK
}

// apply applies the resolved value of a metavariable to a resolved spine.
func (r resolver) apply(n int, spine []api.Term) (api.Term, api.Errno) {
	value, err := r.value(n)
	if err != api.OK {
		return api.Term{}, err
	}
	simple, err := term.Simple(r.metas[n].Class)
	if err != api.OK {
		return api.Term{}, err
	}
	return subst.Apply(value, spine, simple)
}

// value returns the resolved value of a metavariable.
func (r resolver) value(n int) (api.Term, api.Errno) {
	if value, known := r.values[n]; known {
		return value, api.OK
	}
	value, err := r.resolve(r.metas[n].Value)
	if err == api.OK {
		r.values[n] = value
	}
	return value, err
}
