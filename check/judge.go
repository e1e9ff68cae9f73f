package check

import (
	"slices"

	"truss/api"
	"truss/subst"
	"truss/term"
)

// A judge decides what is well typed for a signature, metavariables and a context.
type judge struct {
	signature
	metas metas
	ctx   context
}

// checkClass returns OK if a class is a kind or a type, as its form demands, for a signature.
func checkClass(sig signature, class api.Term) api.Errno {
	j := judge{signature: sig}
	if hasFormOfKind(class) {
		return j.checkKind(class)
	}
	return j.checkType(class)
}

func (j judge) checkType(a api.Term) api.Errno {
	switch a.Op {
	case api.TPi:
		return j.checkProduct(a, judge.checkType)
	case api.TApp:
		return j.checkAtomic(a)
	}
	return api.ErrLevel
}

func (j judge) checkKind(k api.Term) api.Errno {
	switch k.Op {
	case api.TPi:
		return j.checkProduct(k, judge.checkKind)
	case api.TType:
		return api.OK
	}
	return api.ErrLevel
}

// checkProduct returns OK if the domain of a TPi is a type, and checkBody accepts its body.
func (j judge) checkProduct(t api.Term, checkBody func(judge, api.Term) api.Errno) api.Errno {
	domain, body := t.Args[0], t.Args[1]
	if err := j.checkType(domain); err != api.OK {
		return err
	}
	inner, err := j.below(domain)
	if err != api.OK {
		return err
	}
	return checkBody(inner, body)
}

// checkAtomic returns OK if a TApp is a type.
func (j judge) checkAtomic(a api.Term) api.Errno {
	if a.Head != api.HCon {
		return api.ErrLevel
	}
	kind, err := j.kindOf(a.N)
	if err != api.OK {
		return err
	}
	left, err := j.left(kind, a.Args)
	if err == api.OK && left.Op != api.TType {
		return api.ErrShape
	}
	return err
}

func (j judge) checkObject(m, a api.Term) api.Errno {
	switch a.Op {
	case api.TPi:
		if m.Op != api.TLam {
			return misfit(m)
		}
		inner, err := j.below(a.Args[0])
		if err != api.OK {
			return err
		}
		return inner.checkObject(m.Args[0], a.Args[1])
	case api.TApp:
		if m.Op != api.TApp {
			return misfit(m)
		}
		found, err := j.typeOf(m)
		if err == api.OK && !term.Same(found, a) {
			return api.ErrType
		}
		return err
	}
	return api.ErrLevel
}

// misfit returns the error of a term that has not the form of the objects of a type.
func misfit(m api.Term) api.Errno {
	if m.Op == api.TLam || m.Op == api.TApp {
		return api.ErrShape
	}
	return api.ErrLevel
}

// typeOf finds the type of a TApp.
func (j judge) typeOf(m api.Term) (api.Term, api.Errno) {
	class, err := j.heads(m.Head).classOf(m.N)
	if err != api.OK {
		return api.Term{}, err
	}
	left, err := j.left(class, m.Args)
	if err == api.OK && left.Op == api.TPi {
		return api.Term{}, api.ErrShape
	}
	return left, err
}

// left returns what is left of a class that a spine fits.
func (j judge) left(class api.Term, spine []api.Term) (api.Term, api.Errno) {
	for _, object := range spine {
		if class.Op != api.TPi {
			return api.Term{}, api.ErrShape
		}
		if err := j.checkObject(object, class.Args[0]); err != api.OK {
			return api.Term{}, err
		}
		rest, err := subst.Instance(class, []api.Term{object})
		if err != api.OK {
			return api.Term{}, err
		}
		class = rest
	}
	return class, api.OK
}

// below returns the judge below a binder of a variable of this type.
func (j judge) below(domain api.Term) (judge, api.Errno) {
	if len(j.ctx) == api.MaxCtx {
		return judge{}, api.ErrFull
	}
	// The context may be the caller's: nothing is written behind its end.
	j.ctx = append(slices.Clip(j.ctx), domain)
	return j, api.OK
}
