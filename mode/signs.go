package mode

import (
	"slices"
	"strings"

	"truss/api"
	"truss/shape"
	"truss/syntax"
	"truss/term"
)

// word is the Word of the directives that have modes.
const word = "mode"

// isDirective reports whether an item is a well formed directive of a name and signs.
func isDirective(x api.Item) bool {
	if syntax.CheckItem(x) != api.OK || x.Word != word || len(x.Parts) == 0 || x.Parts[0].Op != api.PName {
		return false
	}
	isOther := func(p api.Part) bool { return p.Op != api.PSign }
	return !slices.ContainsFunc(x.Parts[1:], isOther)
}

// texts are the texts of the signs, from MIn on.
const texts = "+-*"

// signOf returns the sign that has a text.
func signOf(text string) int { return api.MIn + strings.Index(texts, text) }

// textOf returns the text of a sign.
func textOf(sign int) string { return texts[sign-api.MIn:][:1] }

// writtenSigns returns the signs of parts that are signs.
func writtenSigns(parts []api.Part) []int {
	var signs []int
	for _, p := range parts {
		signs = append(signs, signOf(p.Sign))
	}
	return signs
}

// arity returns the number of arguments of a constant.
func arity(d api.Decl) int {
	_, count := shape.Result(d.Class)
	return count
}

// withImplicit returns the signs of all arguments of a family, for those of the arguments that are written.
func withImplicit(d api.Decl, written []int) []int {
	domains := slices.Collect(shape.Domains(d.Class))
	var signs []int
	for at := range d.Implicit {
		signs = append(signs, implicitSign(domains, at, written))
	}
	return append(signs, written...)
}

// implicitSign returns the sign of the implicit argument at a position, for those of the last arguments.
func implicitSign(domains []api.Term, at int, written []int) int {
	first := len(domains) - len(written)
	for _, sign := range []int{api.MIn, api.MOut} {
		for i, other := range written {
			if other == sign && occursAt(domains, first+i, at) {
				return sign
			}
		}
	}
	return api.MAny
}

// occursAt reports whether the variable of the TPi at one position occurs in the domain at a later one.
func occursAt(domains []api.Term, later, at int) bool {
	occurs, _ := term.Occurs(domains[later], later-1-at)
	return occurs
}

// isReadable reports whether a directive of a family has these signs.
func isReadable(d api.Decl, signs []int) bool {
	return slices.Equal(withImplicit(d, signs[d.Implicit:]), signs)
}

// areModes reports whether a list is one of modes over a formed signature.
func areModes(sig []api.Decl, modes []api.Mode) bool {
	isWrong := func(m api.Mode) bool { return !isMode(sig, m) }
	return len(modes) <= api.MaxModes && !slices.ContainsFunc(modes, isWrong) && len(signsByFamily(modes)) == len(modes)
}

func isMode(sig []api.Decl, m api.Mode) bool {
	if m.Family < 0 || m.Family >= len(sig) || !shape.IsKind(sig[m.Family].Class) || len(m.Signs) != arity(sig[m.Family]) {
		return false
	}
	isNone := func(sign int) bool { return sign < api.MIn || sign > api.MAny }
	return !slices.ContainsFunc(m.Signs, isNone)
}

// signsByFamily returns the signs of families.
func signsByFamily(modes []api.Mode) map[int][]int {
	signs := make(map[int][]int, len(modes))
	for _, m := range modes {
		signs[m.Family] = m.Signs
	}
	return signs
}

// positions returns the positions of a sign.
func positions(signs []int, sign int) []int {
	var list []int
	for at, other := range signs {
		if other == sign {
			list = append(list, at)
		}
	}
	return list
}
