package meta

import (
	"slices"

	"truss/api"
	"truss/term"
)

// order returns the metavariables that a resolved term needs, each one after those that its Class needs.
func (r resolver) order(t api.Term) ([]int, api.Errno) {
	var list []int
	var listed set
	var put func(t api.Term) api.Errno
	put = func(t api.Term) api.Errno {
		resolved, err := r.resolve(t)
		if err != api.OK {
			return err
		}
		for n := range within(resolved) {
			if listed.with(n) == listed {
				continue
			}
			if err := put(r.metas[n].Class); err != api.OK {
				return err
			}
			listed = listed.with(n)
			list = append(list, n)
		}
		return api.OK
	}
	if err := put(t); err != api.OK {
		return nil, err
	}
	return list, api.OK
}

// abstract returns a closed class, resolved, with TPis around it for the metavariables that it needs, and their number.
func (r resolver) abstract(class api.Term) (api.Term, int, api.Errno) {
	list, err := r.order(class)
	if err != api.OK {
		return api.Term{}, 0, err
	}
	var domains []api.Term
	for i, n := range list {
		// What order has resolved has no error.
		domain, _ := r.resolve(r.metas[n].Class)
		domains = append(domains, bound(domain, list[:i], 0))
	}
	body, _ := r.resolve(class)
	result, err := term.Join(domains, bound(body, list, 0))
	if err != api.OK {
		return api.Term{}, 0, err
	}
	return result, len(list), api.OK
}

// bound returns a term, below some binders, in which the metavariables of a list are the variables beyond these, the last
// one of the list the innermost one.
func bound(t api.Term, list []int, binders int) api.Term {
	result := api.Term{Op: t.Op, Head: t.Head, N: t.N}
	if t.Head == api.HMeta {
		result.Head = api.HVar
		result.N = binders + len(list) - 1 - slices.Index(list, t.N)
	}
	for i, arg := range t.Args {
		below := binders
		if t.Op == api.TLam || t.Op == api.TPi && i == 1 {
			below++
		}
		result.Args = append(result.Args, bound(arg, list, below))
	}
	return result
}
