package syntax

import (
	"slices"
	"strconv"
	"strings"

	"truss/api"
)

func exprText(r api.Raw) string {
	switch r.Op {
	case api.RType:
		return "type"
	case api.RName:
		return r.Name
	case api.RApp:
		return textWithin(r.Args[0], api.RArrow, api.RPi, api.RLam) + " " + textWithin(r.Args[1], api.RApp, api.RArrow, api.RPi, api.RLam)
	case api.RArrow:
		return textWithin(r.Args[0], api.RArrow, api.RPi, api.RLam) + " -> " + exprText(r.Args[1])
	case api.RPi:
		return "{" + binderText(r) + "} " + exprText(r.Args[1])
	case api.RLam:
		return "[" + binderText(r) + "] " + exprText(r.Args[1])
	}
	return "_"
}

// textWithin returns the text of an expression, in parentheses if its Op is one of these.
func textWithin(r api.Raw, ops ...int) string {
	if slices.Contains(ops, r.Op) {
		return "(" + exprText(r) + ")"
	}
	return exprText(r)
}

func binderText(r api.Raw) string {
	if r.Args[0].Op == api.RHole {
		return r.Name
	}
	return r.Name + ":" + exprText(r.Args[0])
}

func itemText(x api.Item) string {
	if x.Word == "" {
		return x.Name + " : " + exprText(x.Raw) + "."
	}
	words := append([]string{"%" + x.Word}, partTexts(x.Parts)...)
	return strings.Join(words, " ") + "."
}

func partTexts(parts []api.Part) []string {
	var texts []string
	for _, part := range parts {
		texts = append(texts, partText(part))
	}
	return texts
}

func partText(p api.Part) string {
	switch p.Op {
	case api.PNum:
		return strconv.Itoa(p.N)
	case api.PTerm:
		return "(" + exprText(p.Raw) + ")"
	case api.PLex:
		return "{" + strings.Join(partTexts(p.Parts), " ") + "}"
	case api.PSim:
		return "[" + strings.Join(partTexts(p.Parts), " ") + "]"
	case api.PBind:
		return "{" + p.Name + ":" + exprText(p.Raw) + "}"
	}
	// A name, a sign with a name, or a mark: what is not meant is empty.
	return p.Sign + p.Name
}
