package load

import (
	"slices"

	"truss/api"
	"truss/syntax"
	"truss/term"
)

func sameSig(a, b []api.Decl) bool {
	return slices.EqualFunc(a, b, func(a, b api.Decl) bool {
		return a.Name == b.Name && a.Implicit == b.Implicit && term.Same(a.Class, b.Class)
	})
}

func sameWords(a, b []api.Directive) bool {
	return slices.EqualFunc(a, b, func(a, b api.Directive) bool {
		return a.After == b.After && sameItem(a.Item, b.Item)
	})
}

func sameItem(a, b api.Item) bool {
	return a.Word == b.Word && a.Name == b.Name && syntax.Same(a.Raw, b.Raw) && sameParts(a.Parts, b.Parts)
}

// An outside is what a part is, but for what is within it.
type outside struct {
	op, n, parts int
	sign, name   string
}

func outsideOf(p api.Part) outside {
	return outside{op: p.Op, n: p.N, parts: len(p.Parts), sign: p.Sign, name: p.Name}
}

func sameParts(a, b []api.Part) bool {
	if len(a) != len(b) {
		return false
	}
	// Lists instead of recursion: the parts may be nested as deep as one likes.
	left, right := slices.Clone(a), slices.Clone(b)
	for len(left) > 0 {
		last := len(left) - 1
		p, q := left[last], right[last]
		if outsideOf(p) != outsideOf(q) || !syntax.Same(p.Raw, q.Raw) {
			return false
		}
		left = append(left[:last], p.Parts...)
		right = append(right[:last], q.Parts...)
	}
	return true
}
