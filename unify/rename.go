package unify

import "truss/api"

// A renaming is a correspondence of metavariables, in both directions.
type renaming struct {
	to, from map[int]int
}

// makes reports whether the renaming, or a larger one, which it becomes, makes u of t.
func (r renaming) makes(t, u api.Term) bool {
	if t.Op != u.Op || t.Head != u.Head || len(t.Args) != len(u.Args) {
		return false
	}
	if t.Head != api.HMeta && t.N != u.N || t.Head == api.HMeta && !r.pairs(t.N, u.N) {
		return false
	}
	for i, arg := range t.Args {
		if !r.makes(arg, u.Args[i]) {
			return false
		}
	}
	return true
}

// pairs reports whether two metavariables correspond, or may correspond from now on.
func (r renaming) pairs(n, m int) bool {
	to, known := r.to[n]
	from, taken := r.from[m]
	if known || taken {
		return known && taken && to == m && from == n
	}
	r.to[n], r.from[m] = m, n
	return true
}
