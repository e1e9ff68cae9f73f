package syntax

import (
	"slices"
	"strconv"

	"truss/api"
)

func isBinder(r api.Raw) bool {
	return r.Op == api.RPi || r.Op == api.RLam
}

func freeNames(r api.Raw) []string {
	var names []string
	var visit func(r api.Raw, bound []string)
	visit = func(r api.Raw, bound []string) {
		if r.Op == api.RName && !slices.Contains(bound, r.Name) && !slices.Contains(names, r.Name) {
			names = append(names, r.Name)
		}
		for i, arg := range r.Args {
			if i == 1 && isBinder(r) {
				bound = append(bound, r.Name)
			}
			visit(arg, bound)
		}
	}
	visit(r, nil)
	return names
}

// allNames returns the names of all nodes, bound or not, some of them more than once.
func allNames(r api.Raw) []string {
	names := []string{r.Name}
	for _, arg := range r.Args {
		names = append(names, allNames(arg)...)
	}
	return names
}

// newNames returns a function that returns another one of v1, v2, ... at each call, but none that is used.
func newNames(used []string) func() string {
	count := 0
	return func() string {
		for {
			count++
			name := "v" + strconv.Itoa(count)
			if !slices.Contains(used, name) {
				return name
			}
		}
	}
}

// A change is a name that is bound around an expression, and what it becomes.
type change struct {
	from, to string
}

// changes are those of all binders around an expression, the innermost one last.
type changes []change

func (c changes) of(name string) string {
	for _, one := range slices.Backward(c) {
		if one.from == name {
			return one.to
		}
	}
	return name
}

func (c changes) with(from, to string) changes {
	return append(slices.Clone(c), change{from, to})
}

// A renamer changes a name that is free in a whole expression.
type renamer struct {
	change
	newName func() string
}

func rename(r api.Raw, from, to string) api.Raw {
	used := append(allNames(r), from, to)
	n := renamer{change{from, to}, newNames(used)}
	// The change stands beyond all binders: they hide it where they bind its name.
	return n.rename(r, changes{n.change})
}

func (n renamer) rename(r api.Raw, around changes) api.Raw {
	result := api.Raw{Op: r.Op, Name: r.Name}
	within := around
	switch r.Op {
	case api.RName:
		result.Name = around.of(r.Name)
	case api.RPi, api.RLam:
		if n.isCaught(r, around) {
			result.Name = n.newName()
		}
		within = around.with(r.Name, result.Name)
	}
	for i, arg := range r.Args {
		if i == 1 {
			around = within
		}
		result.Args = append(result.Args, n.rename(arg, around))
	}
	return result
}

// isCaught reports whether a binder would bind the new name: it has this name, and in its body is the old one, which is
// free in the whole expression.
func (n renamer) isCaught(binder api.Raw, around changes) bool {
	if n.from == n.to || binder.Name != n.to || around.of(n.from) != n.to {
		return false
	}
	return slices.Contains(freeNames(binder.Args[1]), n.from)
}
