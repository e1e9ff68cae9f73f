package unify

import (
	"slices"

	"truss/api"
	"truss/scope"
	"truss/stop"
	"truss/subst"
	"truss/term"
)

// meets is the case of two patterns of the same metavariable: it is cut to the positions of the same variables.
func (w *worker) meets(q api.Equation) bool {
	if q.A.Head != q.B.Head || q.A.N != q.B.N {
		return false
	}
	left, leftIs := w.pattern(q.A)
	right, rightIs := w.pattern(q.B)
	if !leftIs || !rightIs {
		return false
	}
	if slices.Equal(left, right) {
		return true
	}
	if len(left) != len(right) || !w.cut(q.A.N, sameAt(left, right)) {
		return w.isLeft(q)
	}
	return true
}

// sameAt returns, for each position of two lists of one length, whether they agree there.
func sameAt(a, b []int) []bool {
	var result []bool
	for i, n := range a {
		result = append(result, n == b[i])
	}
	return result
}

// cut gives a metavariable a new one as its value that has only those of its arguments that are kept. It reports whether
// this can be done.
func (w *worker) cut(n int, kept []bool) bool {
	class, ok := shortened(w.metas[n].Class, kept)
	if !ok {
		return false
	}
	if len(w.metas) == api.MaxMetas {
		stop.At(api.ErrFull)
	}
	value := api.Term{Op: api.TApp, Head: api.HMeta, N: len(w.metas)}
	domains, _, _ := term.Split(w.metas[n].Class)
	for i, keeps := range kept {
		if keeps {
			simple := stop.Value(term.Simple(domains[i]))
			argument := stop.Value(subst.Long(api.HVar, len(kept)-1-i, simple))
			value.Args = append(value.Args, argument)
		}
	}
	w.metas = append(w.metas, api.Meta{Class: class})
	w.solve(n, scope.Under(len(kept), value))
	return true
}

// shortened returns a class without those of its first TPis that are not kept, if this is possible.
func shortened(class api.Term, kept []bool) (api.Term, bool) {
	if len(kept) == 0 {
		return class, true
	}
	if class.Op != api.TPi {
		return api.Term{}, false
	}
	body, ok := shortened(class.Args[1], kept[1:])
	if !ok {
		return api.Term{}, false
	}
	if kept[0] {
		return api.Term{Op: api.TPi, Args: []api.Term{class.Args[0], body}}, true
	}
	body, err := term.Shift(body, -1, 0)
	return body, err == api.OK
}
