package print

import (
	"slices"
	"strconv"

	"truss/api"
)

// variableNames returns names for the variables at all positions in scope: X1, X2, ... for the first ones, as many as are
// implicit, x and a number for the others. (They may be too long: only some of them are used.)
func variableNames(sig []api.Decl, implicit int) []string {
	next := nameCounter(sig)
	var names []string
	for range implicit {
		names = append(names, next("X"))
	}
	for range api.MaxCtx + api.MaxDepth {
		names = append(names, next("x"))
	}
	return names
}

// nameCounter returns a function that returns at its first call a name with the number 1, then one with 2, and so on: none
// that a constant has.
func nameCounter(sig []api.Decl) func(letter string) string {
	count := 0
	return func(letter string) string {
		count++
		name := letter + strconv.Itoa(count)
		for isConstant(sig, name) {
			name += "'"
		}
		return name
	}
}

func isConstant(sig []api.Decl, name string) bool {
	return slices.ContainsFunc(sig, func(d api.Decl) bool { return d.Name == name })
}
