package term

import "truss/api"

func isProper(t api.Term) bool {
	var m meter
	return m.measure(t, 1)
}

// A meter counts the nodes that it visits, and how deep they are.
type meter struct {
	nodes, depth int
}

// measure reports whether a term is proper, whose outermost node is nested as deep as level says. (It stops at the first
// node too many or too deep: a term of any size may be given.)
func (m *meter) measure(t api.Term, level int) bool {
	m.nodes++
	m.depth = max(m.depth, level)
	if m.nodes > api.MaxNodes || level > api.MaxDepth || !isNode(t) {
		return false
	}
	for _, arg := range t.Args {
		if !m.measure(arg, level+1) {
			return false
		}
	}
	return true
}

// isNode reports whether the fields of a node suit its Op, whatever its Args are.
func isNode(t api.Term) bool {
	hasNoHead := t.Head == 0 && t.N == 0
	switch t.Op {
	case api.TType:
		return hasNoHead && len(t.Args) == 0
	case api.TPi:
		return hasNoHead && len(t.Args) == 2
	case api.TLam:
		return hasNoHead && len(t.Args) == 1
	case api.TApp:
		return t.Head >= api.HVar && t.Head <= api.HMeta && t.N >= 0 && t.N <= api.MaxN
	}
	return false
}
