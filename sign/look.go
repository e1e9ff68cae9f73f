package sign

import (
	"iter"
	"slices"

	"truss/api"
	"truss/shape"
	"truss/term"
)

// positions returns the positions of constants by their names.
func positions(sig []api.Decl) map[string]int {
	found := make(map[string]int, len(sig))
	for n, d := range sig {
		found[d.Name] = n
	}
	return found
}

// objects visits the object constants of a formed signature, each with its target.
func objects(sig []api.Decl) iter.Seq2[int, int] {
	return func(yield func(n, target int) bool) {
		for n, d := range sig {
			end, _ := shape.Result(d.Class)
			if end.Head == api.HCon && !yield(n, end.N) {
				return
			}
		}
	}
}

func contains(class api.Term, constant int) bool {
	constants, _ := term.Constants(class)
	return slices.Contains(constants, constant)
}

// A level is what a term has the form of.
type level int

const (
	noLevel level = iota
	kindLevel
	typeLevel
	objectLevel
)

// levelOf returns the level of a proper term over a formed signature.
func levelOf(sig []api.Decl, t api.Term) level {
	switch t.Op {
	case api.TType:
		return kindLevel
	case api.TPi:
		if body := levelOf(sig, t.Args[1]); body != objectLevel {
			return body
		}
		return noLevel
	case api.TLam:
		if levelOf(sig, t.Args[0]) == objectLevel {
			return objectLevel
		}
		return noLevel
	}
	if t.Head == api.HCon && shape.IsKind(sig[t.N].Class) {
		return typeLevel
	}
	return objectLevel
}
