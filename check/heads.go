package check

import (
	"truss/api"
	"truss/term"
)

// Heads are what TApps of one kind begin with: each one, by its number, has a class.
type heads interface {
	classOf(n int) (api.Term, api.Errno)
}

func (j judge) heads(head int) heads {
	switch head {
	case api.HVar:
		return j.ctx
	case api.HCon:
		return j.signature
	}
	return j.metas
}

type signature []api.Decl

// classOf returns the class of an object constant.
func (s signature) classOf(n int) (api.Term, api.Errno) {
	if n >= len(s) {
		return api.Term{}, api.ErrScope
	}
	if hasFormOfKind(s[n].Class) {
		return api.Term{}, api.ErrLevel
	}
	return s[n].Class, api.OK
}

// kindOf returns the class of a family.
func (s signature) kindOf(n int) (api.Term, api.Errno) {
	if n >= len(s) {
		return api.Term{}, api.ErrScope
	}
	if !hasFormOfKind(s[n].Class) {
		return api.Term{}, api.ErrLevel
	}
	return s[n].Class, api.OK
}

func hasFormOfKind(class api.Term) bool {
	for class.Op == api.TPi {
		class = class.Args[1]
	}
	return class.Op == api.TType
}

type metas []api.Meta

func (m metas) classOf(n int) (api.Term, api.Errno) {
	if n >= len(m) {
		return api.Term{}, api.ErrScope
	}
	return m[n].Class, api.OK
}

type context []api.Term

// classOf returns the type of a variable, as it is in the whole context.
func (c context) classOf(n int) (api.Term, api.Errno) {
	if n >= len(c) {
		return api.Term{}, api.ErrScope
	}
	return term.Shift(c[len(c)-1-n], n+1, 0)
}
