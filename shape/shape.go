// Package shape is about the outermost TPis of proper terms: their domains, and what they are around.
package shape

import (
	"iter"

	"truss/api"
)

// Domains visits the domains of the outermost TPis of a term.
func Domains(t api.Term) iter.Seq[api.Term] {
	return func(yield func(domain api.Term) bool) {
		rest := t
		for rest.Op == api.TPi && yield(rest.Args[0]) {
			rest = rest.Args[1]
		}
	}
}

// Result returns what the outermost TPis of a term are around, and how many they are.
func Result(t api.Term) (api.Term, int) {
	count := 0
	for t.Op == api.TPi {
		t = t.Args[1]
		count++
	}
	return t, count
}

// IsKind reports whether a term has the form of a kind.
func IsKind(t api.Term) bool {
	end, _ := Result(t)
	return end.Op == api.TType
}

// Target returns the family of the result of a type over a formed signature, if it has one.
func Target(sig []api.Decl, t api.Term) (int, bool) {
	end, _ := Result(t)
	if end.Head != api.HCon || end.N >= len(sig) || !IsKind(sig[end.N].Class) {
		return 0, false
	}
	return end.N, true
}
