// Package shape is about the outermost TPis of proper terms: their domains, what they are around, and how they are read as a
// rule.
package shape

import (
	"iter"

	"truss/api"
	"truss/term"
)

// Domains visits the domains of the outermost TPis of a term.
func Domains(t api.Term) iter.Seq[api.Term] {
	return func(yield func(domain api.Term) bool) {
		rest := t
		for rest.Op == api.TPi && yield(rest.Args[0]) {
			rest = rest.Args[1]
		}
	}
}

// Result returns what the outermost TPis of a term are around, and how many they are.
func Result(t api.Term) (api.Term, int) {
	count := 0
	for t.Op == api.TPi {
		t = t.Args[1]
		count++
	}
	return t, count
}

// IsKind reports whether a term has the form of a kind.
func IsKind(t api.Term) bool {
	end, _ := Result(t)
	return end.Op == api.TType
}

// Target returns the family of the result of a type over a formed signature, if it has one.
func Target(sig []api.Decl, t api.Term) (int, bool) {
	end, _ := Result(t)
	if end.Head != api.HCon || end.N >= len(sig) || !IsKind(sig[end.N].Class) {
		return 0, false
	}
	return end.N, true
}

// Clause returns the positions of the outermost TPis of a term whose variables occur in their bodies, and of the others: the
// dependent arguments and the premises of a rule.
func Clause(t api.Term) api.Clause {
	var clause api.Clause
	for at := 0; t.Op == api.TPi; at++ {
		t = t.Args[1]
		if occurs, _ := term.Occurs(t, 0); occurs {
			clause.Dependent = append(clause.Dependent, at)
		} else {
			clause.Premises = append(clause.Premises, at)
		}
	}
	return clause
}
