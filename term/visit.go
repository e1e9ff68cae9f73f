package term

import (
	"maps"
	"slices"

	"truss/api"
)

// below returns the number of binders around the Arg i of a node that has binders around it.
func below(node api.Term, i, binders int) int {
	if node.Op == api.TLam || node.Op == api.TPi && i == 1 {
		return binders + 1
	}
	return binders
}

// visit calls do for every node of a term, with the number of binders around it.
func visit(t api.Term, binders int, do func(node api.Term, binders int)) {
	do(t, binders)
	for i, arg := range t.Args {
		visit(arg, below(t, i, binders), do)
	}
}

// renumbered returns a copy of a term in which the N of each node is what number says.
func renumbered(t api.Term, binders int, number func(node api.Term, binders int) int) api.Term {
	result := api.Term{Op: t.Op, Head: t.Head, N: number(t, binders)}
	if len(t.Args) > 0 {
		result.Args = make([]api.Term, len(t.Args))
	}
	for i, arg := range t.Args {
		result.Args[i] = renumbered(arg, below(t, i, binders), number)
	}
	return result
}

func clone(t api.Term) api.Term {
	return renumbered(t, 0, func(node api.Term, _ int) int { return node.N })
}

// freeNumber returns the number of a free variable, for a node that is one.
func freeNumber(node api.Term, binders int) (int, bool) {
	return node.N - binders, node.Head == api.HVar && node.N >= binders
}

// numberOf returns a function that returns the N of a node, for one with this kind of a head.
func numberOf(head int) func(api.Term, int) (int, bool) {
	return func(node api.Term, _ int) (int, bool) { return node.N, node.Head == head }
}

// numbers returns what number finds at the nodes of a term, each once, ascending.
func numbers(t api.Term, number func(node api.Term, binders int) (int, bool)) ([]int, api.Errno) {
	if !isProper(t) {
		return nil, api.ErrArg
	}
	found := map[int]bool{}
	visit(t, 0, func(node api.Term, binders int) {
		if n, ok := number(node, binders); ok {
			found[n] = true
		}
	})
	return slices.Sorted(maps.Keys(found)), api.OK
}

// simpleType returns the simple type of a proper term, if it has one.
func simpleType(t api.Term) (api.Simple, bool) {
	if t.Op == api.TPi {
		domain, domainHas := simpleType(t.Args[0])
		body, bodyHas := simpleType(t.Args[1])
		if !domainHas || !bodyHas {
			return api.Simple{}, false
		}
		body.Args = slices.Insert(body.Args, 0, domain)
		return body, true
	}
	if t.Head != api.HCon {
		return api.Simple{}, false
	}
	return api.Simple{Con: t.N}, true
}

// same reports whether two trees are equal, of which equal compares two nodes and args returns what is below one.
func same[T any](a, b T, equal func(a, b T) bool, args func(T) []T) bool {
	// Lists instead of recursion: the trees may be nested as deep as one likes.
	left, right := []T{a}, []T{b}
	for len(left) > 0 {
		last := len(left) - 1
		a, b := left[last], right[last]
		if !equal(a, b) || len(args(a)) != len(args(b)) {
			return false
		}
		left = append(left[:last], args(a)...)
		right = append(right[:last], args(b)...)
	}
	return true
}
