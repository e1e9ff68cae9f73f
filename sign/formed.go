package sign

import (
	"truss/api"
	"truss/lexis"
	"truss/shape"
	"truss/term"
)

func isFormed(sig []api.Decl) bool {
	if len(sig) > api.MaxDecls {
		return false
	}
	for n, d := range sig {
		if !isNext(sig[:n], d) {
			return false
		}
	}
	return len(positions(sig)) == len(sig)
}

// isNext reports whether a constant may come after those of a formed signature, if none of them has its name.
func isNext(before []api.Decl, d api.Decl) bool {
	if !isName(d.Name) || term.Check(d.Class) != api.OK || !isOver(before, d.Class, 0) {
		return false
	}
	end, count := shape.Result(d.Class)
	if d.Implicit < 0 || d.Implicit > count {
		return false
	}
	return end.Op == api.TType || end.Head == api.HCon && shape.IsKind(before[end.N].Class)
}

func isName(s string) bool {
	return lexis.IsSmall(s) && s != "type"
}

// isOver reports whether a proper term that has binders around it consists of bound variables and constants of a signature.
func isOver(sig []api.Decl, t api.Term, binders int) bool {
	switch {
	case t.Head == api.HVar && t.N >= binders, t.Head == api.HCon && t.N >= len(sig), t.Head == api.HMeta:
		return false
	}
	for i, arg := range t.Args {
		within := binders
		if t.Op == api.TLam || t.Op == api.TPi && i == 1 {
			within++
		}
		if !isOver(sig, arg, within) {
			return false
		}
	}
	return true
}

// checkConstant returns ErrArg if a signature is not formed, and ErrNone if it has no constant n.
func checkConstant(sig []api.Decl, n int) api.Errno {
	if !isFormed(sig) {
		return api.ErrArg
	}
	if n < 0 || n >= len(sig) {
		return api.ErrNone
	}
	return api.OK
}
