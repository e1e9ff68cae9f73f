package sign

import "truss/api"

// renumbered returns a copy of a signature in which the constants of classes have the numbers that number says.
func renumbered(sig []api.Decl, number func(constant int) int) []api.Decl {
	var list []api.Decl
	for _, d := range sig {
		list = append(list, api.Decl{Name: d.Name, Class: renumberedTerm(d.Class, number), Implicit: d.Implicit})
	}
	return list
}

func renumberedTerm(t api.Term, number func(constant int) int) api.Term {
	changed := api.Term{Op: t.Op, Head: t.Head, N: t.N}
	if t.Head == api.HCon {
		changed.N = number(t.N)
	}
	for _, arg := range t.Args {
		changed.Args = append(changed.Args, renumberedTerm(arg, number))
	}
	return changed
}

func same(constant int) int { return constant }
