package subst

import (
	"truss/api"
	"truss/term"
)

// A piece is a proper term with its size.
type piece struct {
	term         api.Term
	nodes, depth int
}

// measured returns the piece that a proper term is.
func measured(t api.Term) piece {
	nodes, depth, _ := term.Size(t)
	return piece{t, nodes, depth}
}

// shifted returns a copy in which all free variables are shifted.
func (p piece) shifted(by int) piece {
	t, err := term.Shift(p.term, by, 0)
	if err != api.OK {
		panic(failure{err})
	}
	return piece{t, p.nodes, p.depth}
}

// built returns the piece that has the Op and the head of a node, and args.
func built(node api.Term, args []piece) piece {
	result := piece{api.Term{Op: node.Op, Head: node.Head, N: node.N}, 1, 1}
	for _, arg := range args {
		result.term.Args = append(result.term.Args, arg.term)
		result.nodes += arg.nodes
		result.depth = max(result.depth, arg.depth+1)
	}
	if result.nodes > api.MaxNodes || result.depth > api.MaxDepth {
		panic(failure{api.ErrFull})
	}
	return result
}

// A failure is what ends a computation that has no result.
type failure struct {
	err api.Errno
}

// A counter counts the nodes at which the substitutions of one call arrive.
type counter struct {
	nodes int
}

func (c *counter) arrive() {
	c.nodes++
	if c.nodes > api.MaxSteps {
		panic(failure{api.ErrFull})
	}
}

// finish returns what a computation comes to.
func finish(compute func(*counter) piece) (result api.Term, err api.Errno) {
	defer func() {
		if f, ok := recover().(failure); ok {
			result, err = api.Term{}, f.err
		}
	}()
	return compute(&counter{}).term, api.OK
}

// A substitution puts an object, of a simple type, for a variable, and applies it where it stands.
type substitution struct {
	*counter
	object piece
	simple api.Simple
}

// in puts the object for the free variable n of a term.
func (s substitution) in(t api.Term, n int) piece {
	s.arrive()
	args := visited(t, n, s.in)
	if t.Head != api.HVar || t.N < n {
		return built(t, args)
	}
	if t.N == n {
		return s.apply(n, args)
	}
	return built(api.Term{Op: t.Op, Head: t.Head, N: t.N - 1}, args)
}

// apply applies the object, shifted by n, to a spine.
func (s substitution) apply(n int, spine []piece) piece {
	f, simple := s.object.shifted(n), s.simple
	for _, object := range spine {
		if f.term.Op != api.TLam || len(simple.Args) == 0 {
			panic(failure{api.ErrShape})
		}
		f = substitution{s.counter, object, simple.Args[0]}.in(f.term.Args[0], 0)
		simple.Args = simple.Args[1:]
	}
	return f
}

// visited returns what do makes of the Args of a node, from the first one on: n counts the binders around them.
func visited(node api.Term, n int, do func(t api.Term, n int) piece) []piece {
	var result []piece
	for i, arg := range node.Args {
		within := n
		if node.Op == api.TLam || node.Op == api.TPi && i == 1 {
			within++
		}
		result = append(result, do(arg, within))
	}
	return result
}
