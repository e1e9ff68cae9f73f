package mode

import (
	"slices"

	"truss/api"
	"truss/shape"
	"truss/term"
)

// A checker checks classes. What is wrong ends the check.
type checker struct {
	signs map[int][]int
}

func newChecker(modes []api.Mode) checker {
	return checker{signsByFamily(modes)}
}

// A wrong is what a check panics with: the positions of the premise that is used, and of the argument that should be known.
type wrong struct {
	premise, argument int
}

// none is the position of a premise or of an argument where there is none.
const none = -1

// check returns what is wrong first in the class of a constant, if anything is.
func (c checker) check(class api.Term) (found wrong, isWrong bool) {
	defer func() {
		if w, ok := recover().(wrong); ok {
			found, isWrong = w, true
		}
	}()
	c.assume(place{}, set{}, class, none)
	return wrong{}, false
}

// A set is a set of variables, by how many binders there are around those that bind them.
type set [api.MaxDepth]bool

// A place is where a type stands: how many binders are around it, and which of their variables are open.
type place struct {
	binders int
	open    set
}

// below returns the place below one more binder.
func (p place) below(isOpen bool) place {
	p.open[p.binders] = isOpen
	p.binders++
	return p
}

// level returns how many binders there are around the one of a free variable.
func (p place) level(n int) int { return p.binders - 1 - n }

func (p place) isFixed(n int) bool { return !p.open[p.level(n)] }

// assume checks that a type, within a premise, is like the class of a constant that is well moded, where some variables are
// known.
func (c checker) assume(p place, known set, t api.Term, within int) {
	end, signs, ok := c.end(t)
	if !ok {
		return
	}
	clause := shape.Clause(t)
	domains := slices.Collect(shape.Domains(t))
	inner := p
	for at := range domains {
		known[inner.binders] = false
		inner = inner.below(slices.Contains(clause.Dependent, at))
	}
	known = inner.learn(known, end.Args, signs, api.MIn)
	for _, at := range slices.Backward(clause.Premises) {
		outer := inner
		outer.binders = p.binders + at
		premise := within
		if within == none {
			premise = at
		}
		known = c.use(outer, known, domains[at], premise)
	}
	inner.need(known, end.Args, signs, api.MOut, within)
}

// use returns what is known after the use of a type, within a premise, where some variables are known.
func (c checker) use(p place, known set, t api.Term, within int) set {
	for t.Op == api.TPi {
		c.assume(p, known, t.Args[0], within)
		p = p.below(false)
		t = t.Args[1]
	}
	end, signs, ok := c.end(t)
	if !ok {
		panic(wrong{within, none})
	}
	p.need(known, end.Args, signs, api.MIn, within)
	return p.learn(known, end.Args, signs, api.MOut)
}

// end returns the result of a type, and the signs of its family, if that has a mode.
func (c checker) end(t api.Term) (api.Term, []int, bool) {
	end, _ := shape.Result(t)
	signs, ok := c.signs[end.N]
	return end, signs, ok && end.Head == api.HCon && len(signs) == len(end.Args)
}

// learn returns what is known if the arguments with a sign are.
func (p place) learn(known set, args []api.Term, signs []int, sign int) set {
	for _, at := range positions(signs, sign) {
		strictIn(args[at], p.isFixed, func(n int) { known[p.level(n)] = true })
	}
	return known
}

// need checks that the arguments with a sign are known.
func (p place) need(known set, args []api.Term, signs []int, sign, within int) {
	for _, at := range positions(signs, sign) {
		free, _ := term.Free(args[at])
		isUnknown := func(n int) bool { return !p.isFixed(n) && !known[p.level(n)] }
		if slices.ContainsFunc(free, isUnknown) {
			panic(wrong{within, at})
		}
	}
}
