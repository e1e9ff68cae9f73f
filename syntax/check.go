package syntax

import (
	"truss/api"
	"truss/lexis"
)

// isName reports whether a string is what the grammar calls N.
func isName(s string) bool {
	return s != "type" && (lexis.IsSmall(s) || lexis.IsCapital(s))
}

func isFormed(r api.Raw) bool {
	nodes := api.MaxRaw
	return fits(r, api.MaxDepth, &nodes)
}

// fits reports whether an expression is well formed, at most depth deep, and has at most as many nodes, which it uses up.
// (It stops at the first node too many: an expression of any size may be given.)
func fits(r api.Raw, depth int, nodes *int) bool {
	if depth == 0 || *nodes == 0 || !isNode(r) {
		return false
	}
	*nodes--
	for _, arg := range r.Args {
		if !fits(arg, depth-1, nodes) {
			return false
		}
	}
	return true
}

// isNode reports whether the fields of a node suit its Op, whatever its Args are.
func isNode(r api.Raw) bool {
	switch r.Op {
	case api.RType, api.RHole:
		return r.Name == "" && len(r.Args) == 0
	case api.RName:
		return isName(r.Name) && len(r.Args) == 0
	case api.RApp, api.RArrow:
		return r.Name == "" && len(r.Args) == 2
	case api.RPi, api.RLam:
		return isName(r.Name) && len(r.Args) == 2
	}
	return false
}

func isFormedItem(x api.Item) bool {
	if x.Word == "" {
		return isName(x.Name) && lexis.IsSmall(x.Name) && isFormed(x.Raw) && len(x.Parts) == 0
	}
	count := api.MaxRaw
	return lexis.IsSmall(x.Word) && x.Name == "" && isNoRaw(x.Raw) && partsFit(x.Parts, api.MaxDepth, &count)
}

// partsFit reports for parts what fits does for an expression.
func partsFit(parts []api.Part, depth int, count *int) bool {
	for _, part := range parts {
		if depth == 0 || *count == 0 || !isPart(part) {
			return false
		}
		*count--
		if !partsFit(part.Parts, depth-1, count) {
			return false
		}
	}
	return true
}

// isPart reports whether the fields of a part suit its Op, whatever the parts within it are.
func isPart(p api.Part) bool {
	right := false
	rest := p
	rest.Op = 0
	switch p.Op {
	case api.PName:
		right = isName(p.Name)
		rest.Name = ""
	case api.PSign:
		right = isName(p.Name) && (p.Sign == "+" || p.Sign == "-" || p.Sign == "*")
		rest.Name, rest.Sign = "", ""
	case api.PNum:
		right = p.N >= 0 && p.N <= api.MaxNumber
		rest.N = 0
	case api.PTerm:
		right = isFormed(p.Raw)
		rest.Raw = api.Raw{}
	case api.PLex:
		right = !beginsBinding(p.Parts)
		rest.Parts = nil
	case api.PSim:
		right = true
		rest.Parts = nil
	case api.PBind:
		right = isName(p.Name) && isFormed(p.Raw)
		rest.Name, rest.Raw = "", api.Raw{}
	case api.PMark:
		right = p.Sign == ":" || p.Sign == "|" || p.Sign == "="
		rest.Sign = ""
	}
	return right && isNoPart(rest)
}

// beginsBinding reports whether parts in braces would be read as a binding.
func beginsBinding(parts []api.Part) bool {
	return len(parts) >= 2 && parts[0].Op == api.PName && parts[1].Op == api.PMark && parts[1].Sign == ":"
}

func isNoPart(p api.Part) bool {
	return p.Op == 0 && p.Sign == "" && p.Name == "" && p.N == 0 && isNoRaw(p.Raw) && len(p.Parts) == 0
}

func isNoRaw(r api.Raw) bool {
	return r.Op == 0 && r.Name == "" && len(r.Args) == 0
}
