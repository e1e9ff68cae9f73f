// Package syntax is layer 2: see shared/doc/02-syntax.md.
package syntax

import (
	"slices"

	"truss/api"
)

// Items returns the items of a source. With ErrSyntax it returns the position of the token that cannot stand there.
func Items(source string) ([]api.Item, int, api.Errno) {
	var items []api.Item
	at, err := read(source, func(r *reader) {
		for item := range r.items {
			items = append(items, item)
		}
	})
	if err != api.OK {
		return nil, at, err
	}
	// What has been read can be wrong in its size alone.
	tooLarge := func(x api.Item) bool { return !isFormedItem(x) }
	if len(items) > api.MaxItems || slices.ContainsFunc(items, tooLarge) {
		return nil, 0, api.ErrFull
	}
	return items, 0, api.OK
}

// Expr returns the raw expression that a source is as a whole. Its errors are those of Items.
func Expr(source string) (api.Raw, int, api.Errno) {
	var result api.Raw
	at, err := read(source, func(r *reader) {
		result = r.expr()
		r.end()
	})
	if err != api.OK {
		return api.Raw{}, at, err
	}
	if !isFormed(result) {
		return api.Raw{}, 0, api.ErrFull
	}
	return result, 0, api.OK
}

// Check returns ErrArg if a raw expression is not well formed.
func Check(r api.Raw) api.Errno {
	if !isFormed(r) {
		return api.ErrArg
	}
	return api.OK
}

// CheckItem returns ErrArg if an item is not well formed.
func CheckItem(x api.Item) api.Errno {
	if !isFormedItem(x) {
		return api.ErrArg
	}
	return api.OK
}

// Text returns the text of a raw expression.
func Text(r api.Raw) (string, api.Errno) {
	if !isFormed(r) {
		return "", api.ErrArg
	}
	return exprText(r), api.OK
}

// TextItem returns the text of an item.
func TextItem(x api.Item) (string, api.Errno) {
	if !isFormedItem(x) {
		return "", api.ErrArg
	}
	return itemText(x), api.OK
}

// Free returns the names that no binder binds, in the order of their first occurrences.
func Free(r api.Raw) ([]string, api.Errno) {
	if !isFormed(r) {
		return nil, api.ErrArg
	}
	return freeNames(r), api.OK
}

// Rename puts the name to for every free occurrence of from, and renames the binders that would bind it.
func Rename(r api.Raw, from, to string) (api.Raw, api.Errno) {
	if !isFormed(r) || !isName(from) || !isName(to) {
		return api.Raw{}, api.ErrArg
	}
	return rename(r, from, to), api.OK
}

// Same reports whether two raw expressions are the same.
func Same(a, b api.Raw) bool {
	type sides struct{ a, b api.Raw }
	// A list instead of recursion: the expressions may be nested as deep as one likes.
	left := []sides{{a, b}}
	for len(left) > 0 {
		last := len(left) - 1
		next := left[last]
		left = left[:last]
		if next.a.Op != next.b.Op || next.a.Name != next.b.Name || len(next.a.Args) != len(next.b.Args) {
			return false
		}
		for i, arg := range next.a.Args {
			left = append(left, sides{arg, next.b.Args[i]})
		}
	}
	return true
}
