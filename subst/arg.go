package subst

import (
	"slices"

	"truss/api"
	"truss/term"
)

func areProper(terms ...api.Term) bool {
	isWrong := func(t api.Term) bool { return term.Check(t) != api.OK }
	return !slices.ContainsFunc(terms, isWrong)
}

func isList(l []api.Term) bool {
	return len(l) <= api.MaxNodes && areProper(l...)
}

func isNumber(n int) bool {
	return n >= 0 && n <= api.MaxN
}

func isSmall(s api.Simple) bool {
	left := api.MaxNodes
	return fits(s, &left)
}

// fits reports whether a simple type has at most as many constants as are left, which it uses up. (It stops at the first
// one too many: a simple type of any size may be given.)
func fits(s api.Simple, left *int) bool {
	if *left == 0 || !isNumber(s.Con) {
		return false
	}
	*left--
	for _, arg := range s.Args {
		if !fits(arg, left) {
			return false
		}
	}
	return true
}
