package check_test

import (
	"slices"

	"truss/api"
	"truss/term"
)

// The kernel once more, in another way: classes are evaluated to values, and nothing is substituted or shifted. (For a valid
// signature, closed types as Classes, and valid contexts.)

// A value is the value of a term. That of a TLam, or of a TPi, can be called. N of a variable is its position in the context.
type value struct {
	op, head, n int
	args        []value // of a TPi its domain
	call        func(value) value
}

// An env gives the variables values: the last one is that of the variable 0.
type env []value

func (e env) with(x value) env { return append(slices.Clip(e), x) }

func evaluate(t api.Term, e env) value {
	result := value{op: t.Op, head: t.Head, n: t.N}
	switch t.Op {
	case api.TPi:
		result.args = []value{evaluate(t.Args[0], e)}
		result.call = func(x value) value { return evaluate(t.Args[1], e.with(x)) }
	case api.TLam:
		result.call = func(x value) value { return evaluate(t.Args[0], e.with(x)) }
	case api.TApp:
		if t.Head == api.HVar {
			result = e[len(e)-1-t.N]
		}
		for _, arg := range t.Args {
			x := evaluate(arg, e)
			if result.call != nil {
				result = result.call(x)
			} else {
				result.args = append(slices.Clip(result.args), x)
			}
		}
	}
	return result
}

func variable(position int) value { return value{op: api.TApp, head: api.HVar, n: position} }

// readBack returns the term of a value in a context of so many types.
func readBack(x value, length int) api.Term {
	t := api.Term{Op: x.op, Head: x.head, N: x.n}
	if x.head == api.HVar {
		t.N = length - 1 - x.n
	}
	for _, arg := range x.args {
		t.Args = append(t.Args, readBack(arg, length))
	}
	if x.call != nil {
		t.Args = append(t.Args, readBack(x.call(variable(length)), length+1))
	}
	return t
}

// An oracle judges in a context: of its variables it has the types as values, and the variables themselves.
type oracle struct {
	sig   []api.Decl
	metas []api.Meta
	types []value
	env   env
}

func (o oracle) below(domain value) oracle {
	o.env = o.env.with(variable(len(o.types)))
	o.types = append(slices.Clip(o.types), domain)
	return o
}

func (o oracle) context(ctx []api.Term) api.Errno {
	for _, a := range ctx {
		if err := o.checkClass(a, api.TApp); err != api.OK {
			return err
		}
		o = o.below(evaluate(a, o.env))
	}
	return api.OK
}

// checkClass judges a type (end is TApp) or a kind (TType).
func (o oracle) checkClass(a api.Term, end int) api.Errno {
	switch {
	case a.Op == api.TPi:
		if err := o.checkClass(a.Args[0], api.TApp); err != api.OK {
			return err
		}
		return o.below(evaluate(a.Args[0], o.env)).checkClass(a.Args[1], end)
	case a.Op != end, end == api.TApp && a.Head != api.HCon:
		return api.ErrLevel
	case end == api.TType:
		return api.OK
	case a.N >= len(o.sig):
		return api.ErrScope
	}
	kind := evaluate(o.sig[a.N].Class, nil)
	if !isKindValue(kind) {
		return api.ErrLevel
	}
	left, err := o.spine(kind, a.Args)
	if err == api.OK && left.op != api.TType {
		return api.ErrShape
	}
	return err
}

func isKindValue(x value) bool {
	for x.op == api.TPi {
		x = x.call(variable(0))
	}
	return x.op == api.TType
}

func (o oracle) checkObject(object api.Term, a value) api.Errno {
	want := api.TApp
	if a.op == api.TPi {
		want = api.TLam
	}
	switch {
	case object.Op == api.TType || object.Op == api.TPi:
		return api.ErrLevel
	case object.Op != want:
		return api.ErrShape
	case want == api.TLam:
		return o.below(a.args[0]).checkObject(object.Args[0], a.call(variable(len(o.types))))
	}
	found, err := o.typeOf(object)
	length := len(o.types)
	if err == api.OK && !term.Same(readBack(found, length), readBack(a, length)) {
		return api.ErrType
	}
	return err
}

func (o oracle) typeOf(object api.Term) (value, api.Errno) {
	length := map[int]int{api.HVar: len(o.types), api.HCon: len(o.sig), api.HMeta: len(o.metas)}[object.Head]
	if object.N >= length {
		return value{}, api.ErrScope
	}
	var class value
	switch object.Head {
	case api.HVar:
		class = o.types[length-1-object.N]
	case api.HCon:
		class = evaluate(o.sig[object.N].Class, nil)
		if isKindValue(class) {
			return value{}, api.ErrLevel
		}
	case api.HMeta:
		class = evaluate(o.metas[object.N].Class, nil)
	}
	left, err := o.spine(class, object.Args)
	if err == api.OK && left.op == api.TPi {
		return value{}, api.ErrShape
	}
	return left, err
}

func (o oracle) spine(class value, spine []api.Term) (value, api.Errno) {
	for _, object := range spine {
		if class.op != api.TPi {
			return value{}, api.ErrShape
		}
		if err := o.checkObject(object, class.args[0]); err != api.OK {
			return value{}, err
		}
		class = class.call(evaluate(object, o.env))
	}
	return class, api.OK
}

// in returns the oracle in a valid context.
func (o oracle) in(ctx []api.Term) oracle {
	for _, a := range ctx {
		o = o.below(evaluate(a, o.env))
	}
	return o
}
