// Package written reads what texts write, for the tests of all layers from depend on. It panics where a text is not right.
package written

import (
	"strconv"

	"truss/api"
	"truss/load"
	"truss/sign"
	"truss/syntax"
)

// Sig returns the signature of a source.
func Sig(source string) []api.Decl {
	l, at, err := load.Load(source)
	must(err, source, at)
	return l.Sig
}

// Items returns the items of a source.
func Items(source string) []api.Item {
	list, at, err := syntax.Items(source)
	must(err, source, at)
	return list
}

// Raw returns the raw expression of a text.
func Raw(text string) api.Raw {
	r, at, err := syntax.Expr(text)
	must(err, text, at)
	return r
}

// Constant returns the number of the constant with a name.
func Constant(sig []api.Decl, name string) int {
	n, err := sign.Find(sig, name)
	must(err, name, 0)
	return n
}

func must(err api.Errno, text string, at int) {
	if err != api.OK {
		panic(text + ": error " + strconv.Itoa(int(err)) + " at " + strconv.Itoa(at))
	}
}
