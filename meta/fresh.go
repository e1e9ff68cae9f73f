package meta

import (
	"truss/api"
	"truss/subst"
	"truss/term"
)

// withFresh is Fresh for a formed list, a name that may be one, and terms over the list.
func withFresh(metas []api.Meta, name string, ctx []api.Term, a api.Term) ([]api.Meta, api.Term, api.Errno) {
	if len(ctx) > api.MaxCtx {
		return nil, api.Term{}, api.ErrArg
	}
	if name != "" && isNamed(metas, name) {
		return nil, api.Term{}, api.ErrTwice
	}
	if len(metas) == api.MaxMetas {
		return nil, api.Term{}, api.ErrFull
	}
	class, simple, err := closed(ctx, a)
	if err != api.OK {
		return nil, api.Term{}, err
	}
	object, err := objectOf(len(metas), simple, len(ctx))
	if err != api.OK {
		return nil, api.Term{}, err
	}
	list := append(copied(metas), api.Meta{Name: name, Class: class})
	return list, object, api.OK
}

// closed returns a type with those of its context around it, and its simple type.
func closed(ctx []api.Term, a api.Term) (api.Term, api.Simple, api.Errno) {
	class, err := term.Join(ctx, a)
	if err != api.OK {
		return api.Term{}, api.Simple{}, err
	}
	if !isClosed(class) {
		return api.Term{}, api.Simple{}, api.ErrScope
	}
	simple, err := term.Simple(class)
	if err != api.OK {
		return api.Term{}, api.Simple{}, err
	}
	return class, simple, api.OK
}

// objectOf returns the object of a metavariable of a simple type, whose first Args are so many variables of a context.
func objectOf(n int, simple api.Simple, variables int) (api.Term, api.Errno) {
	object := api.Term{Op: api.TApp, Head: api.HMeta, N: n}
	for i, arg := range simple.Args {
		long, err := subst.Long(api.HVar, len(simple.Args)-1-i, arg)
		if err != api.OK {
			return api.Term{}, err
		}
		object.Args = append(object.Args, long)
	}
	for range simple.Args[variables:] {
		object = api.Term{Op: api.TLam, Args: []api.Term{object}}
	}
	if term.Check(object) != api.OK {
		return api.Term{}, api.ErrFull
	}
	return object, api.OK
}

// opened is Open for a formed list, and terms over it.
func opened(metas []api.Meta, ctx []api.Term, class api.Term, n int) ([]api.Meta, []api.Term, api.Term, api.Errno) {
	list, rest := copied(metas), clone(class)
	var objects []api.Term
	for range n {
		if rest.Op != api.TPi {
			return nil, nil, api.Term{}, api.ErrShape
		}
		longer, object, err := withFresh(list, "", ctx, rest.Args[0])
		if err != api.OK {
			return nil, nil, api.Term{}, err
		}
		left, err := subst.Instance(rest, []api.Term{object})
		if err != api.OK {
			return nil, nil, api.Term{}, err
		}
		list, rest = longer, left
		objects = append(objects, object)
	}
	return list, objects, rest, api.OK
}
