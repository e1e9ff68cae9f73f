package mode

import (
	"truss/api"
	"truss/scope"
)

// strictIn calls found for each free variable that is strict in a term and not fixed, for some of them more than once.
func strictIn(t api.Term, isFixed func(n int) bool, found func(n int)) {
	var walk func(t api.Term, binders int)
	walk = func(t api.Term, binders int) {
		if n, isFree := scope.Free(t, binders); isFree && !isFixed(n) {
			if isPattern(t, binders, isFixed) {
				found(n)
			}
			return
		}
		for around, arg := range scope.Args(t, binders) {
			walk(arg, around)
		}
	}
	walk(t, 0)
}

// isPattern reports whether the Args of a TApp with so many binders around it are long forms of different variables that are
// bound or fixed.
func isPattern(t api.Term, binders int, isFixed func(n int) bool) bool {
	variables, ok := scope.Variables(t.Args)
	for _, n := range variables {
		ok = ok && (n < binders || isFixed(n-binders))
	}
	return ok
}
