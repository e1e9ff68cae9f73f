package unify

import "truss/api"

// A renaming is a one-to-one correspondence of metavariables: what each one becomes, and which ones are taken by this.
type renaming struct {
	to    map[int]int
	taken map[int]bool
}

// makes reports whether the renaming, or a larger one, which it becomes, makes u of t.
func (r renaming) makes(t, u api.Term) bool {
	if t.Op != u.Op || t.Head != u.Head || len(t.Args) != len(u.Args) {
		return false
	}
	if t.Head != api.HMeta && t.N != u.N || t.Head == api.HMeta && !r.pairs(t.N, u.N) {
		return false
	}
	for i, arg := range t.Args {
		if !r.makes(arg, u.Args[i]) {
			return false
		}
	}
	return true
}

// pairs reports whether two metavariables correspond, or may correspond from now on.
func (r renaming) pairs(n, m int) bool {
	to, known := r.to[n]
	if known || r.taken[m] {
		return known && to == m
	}
	r.to[n], r.taken[m] = m, true
	return true
}
