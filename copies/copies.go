// Package copies makes copies, which share no memory with what they are of.
package copies

import "truss/api"

// Term returns a copy of a term.
func Term(t api.Term) api.Term { return renumbered(t, same) }

// Sig returns a copy of a signature.
func Sig(sig []api.Decl) []api.Decl { return Renumbered(sig, same) }

// Renumbered returns a copy of a signature in which the constants of classes have the numbers that number says.
func Renumbered(sig []api.Decl, number func(constant int) int) []api.Decl {
	return each(sig, func(d api.Decl) api.Decl {
		return api.Decl{Name: d.Name, Class: renumbered(d.Class, number), Implicit: d.Implicit}
	})
}

func renumbered(t api.Term, number func(constant int) int) api.Term {
	changed := api.Term{Op: t.Op, Head: t.Head, N: t.N}
	if t.Head == api.HCon {
		changed.N = number(t.N)
	}
	changed.Args = each(t.Args, func(arg api.Term) api.Term { return renumbered(arg, number) })
	return changed
}

func same(constant int) int { return constant }

// Item returns a copy of an item.
func Item(x api.Item) api.Item {
	return api.Item{Word: x.Word, Name: x.Name, Raw: raw(x.Raw), Parts: each(x.Parts, part)}
}

func raw(r api.Raw) api.Raw {
	return api.Raw{Op: r.Op, Name: r.Name, Args: each(r.Args, raw)}
}

func part(p api.Part) api.Part {
	p.Raw = raw(p.Raw)
	p.Parts = each(p.Parts, part)
	return p
}

// each returns the list of what copyOf makes of the elements of a list.
func each[T any](list []T, copyOf func(T) T) []T {
	var copied []T
	for _, x := range list {
		copied = append(copied, copyOf(x))
	}
	return copied
}
