package mode_test

import (
	"testing"

	"truss/api"
	"truss/written"
)

// P14.2: the examples of the chapter

func TestExamples(t *testing.T) {
	source := numbers + "bad : plus M N P."
	expectFaults(t, numbers, "%mode plus +M +N -P.", "plus", nil)
	expectFaults(t, numbers, "%mode plus -M +N +P.", "plus", nil)
	expectFaults(t, numbers, "%mode plus +M -N +P.", "plus", nil)
	expectFaults(t, source, "%mode plus +M +N -P.", "plus", map[string]fault{"bad": {none, 2}})
}

// P14.2: all modes of plus: its head, and its premise

func TestPlus(t *testing.T) {
	source := numbers + "comm : plus M N P <- plus N M P."
	expectFaults(t, source, "%mode plus +M +N +P.", "plus", nil)
	expectFaults(t, source, "%mode plus *M *N *P.", "plus", nil)
	expectFaults(t, source, "%mode plus -M *N *P.", "plus", map[string]fault{"comm": {none, 0}})
	expectFaults(t, source, "%mode plus *M *N -P.", "plus", map[string]fault{"pz": {none, 2}})
	expectFaults(t, source, "%mode plus +M *N *P.", "plus", map[string]fault{"comm": {3, 0}})
	expectFaults(t, source, "%mode plus +M -N -P.", "plus", map[string]fault{"pz": {none, 1}, "comm": {3, 0}})
	expectFaults(t, source, "%mode plus -M -N -P.", "plus", map[string]fault{"pz": {none, 1}})
	expectFaults(t, source, "%mode plus -M -N +P.", "plus", nil)
	// A family without a mode: its constants are well moded, and no premise can use it.
	expectFaults(t, source, "", "plus", nil)
	expectFaults(t, source, "%mode nat.", "plus", nil)
	expectFaults(t, source, "%mode nat.", "nat", nil)
	expectFaults(t, "a : type. b : type. c : a -> b. d : b.", "%mode a. %mode b.", "b", nil)
	expectFaults(t, "a : type. b : type. c : a -> b. d : b.", "%mode b.", "b", map[string]fault{"c": {0, none}})
}

// P14.2: premises are used from the last one to the first one

func TestPremises(t *testing.T) {
	source := "n : type. z : n. s : n -> n. a : n -> n -> type. b : n -> n -> type. r : n -> n -> type. "
	modes := "%mode a +N -M. %mode r +N -M."
	expectFaults(t, source+"k1 : r X Y <- a X Y. k2 : r X Z <- a X Y <- a Y Z. k3 : r X Z <- a Y Z <- a X Y. k4 : r X X. k5 : r X Y <- b X Y. k6 : r X Y <- a X Y <- b X Y.", modes, "r",
		map[string]fault{"k3": {4, 0}, "k5": {2, none}, "k6": {2, none}})
	// What is wrong first: in the last premise, in its first argument.
	expectFaults(t, source+"k1 : r X Y <- a Y X <- b X Y. k2 : r X Y <- a X U <- b U X <- a V X. k3 : r X Y. k4 : r X Y <- a z (s Y). k5 : r X Y <- a z Z.", modes+" %mode b -N +M.", "r",
		map[string]fault{"k1": {3, 0}, "k2": {4, 0}, "k3": {none, 1}, "k5": {none, 1}})
	// A premise may stand before the variables that are not its own.
	expectFaults(t, source+"k : {x:n} a z z -> {y:n} a x y -> r x y. l : a z z -> {x:n} {y:n} a y x -> r x y.", modes, "r", map[string]fault{"l": {3, 0}})
	// An argument that is known, and one with *.
	expectFaults(t, source+"k1 : r X z. k2 : r X (s Y) <- b X Y. k3 : r (s X) (s (s X)). k4 : r z Y <- b Y z.", modes+"%mode b *N -M.", "r", map[string]fault{"k4": {none, 1}})
}

// P14.2: premises that are rules

func TestTyping(t *testing.T) {
	source := lambdas + "offun : of (fun A [x] E x) (arr A B) <- ({x:tm} of x A -> of (E x) B)."
	expectFaults(t, source, "%mode of +E -A.", "of", map[string]fault{"oflam": {3, 1}})
	expectFaults(t, source, "%mode of +E +A.", "of", map[string]fault{"ofapp": {5, 1}})
	expectFaults(t, source, "%mode of -E +A.", "of", map[string]fault{"ofapp": {5, 1}})
	expectFaults(t, source, "%mode of -E -A.", "of", map[string]fault{"oflam": {3, 1}, "offun": {3, 1}})
	expectFaults(t, source, "%mode of *E *A.", "of", nil)
}

// What stands in premises: each rule is of the type c, and may use these families, but for f.
const (
	hypotheses     = "n : type. z : n. s : n -> n. a : n -> n -> type. b : n -> type. o : n -> type. f : n -> type. c : type. "
	hypothesesMode = "%mode a +N -M. %mode b +N. %mode o -N. %mode c. %mode n."
)

func TestHypotheses(t *testing.T) {
	for _, rule := range []string{
		// What is bound by a premise is known.
		"({x:n} b x) -> c", "({x:n} {y:n} a x y) -> c", "({x:n} a x z -> b x) -> c", "{X:n} ({x:n} a x X) -> c", "{X:n} b X -> ({x:n} a x X) -> c",
		// A variable that is applied to what is bound by a premise is found, and known.
		"{f:n -> n} ({x:n} b (f x)) -> ({x:n} o (f x)) -> c", "{f:n -> n -> n} ({x:n} {y:n} b (f y x)) -> ({x:n} {y:n} o (f x y)) -> c",
		// A domain of a premise is assumed: what goes into it is known there, what comes out must be so.
		"{X:n} (o X -> b z) -> o X -> c", "{X:n} (a X X -> b z) -> c", "{X:n} (b X -> b z) -> c", "{X:n} (f X -> b z) -> c", "{X:n} {Y:n} (a X Y -> b z) -> o Y -> c",
		"{X:n} (b X -> o X) -> c", "{X:n} b X -> (b z -> o X) -> c",
		// A domain that is a rule itself, with its own arguments and premises.
		"(({Y:n} b Y) -> b z) -> c", "(({Y:n} o Y -> o Y) -> b z) -> c", "(({Y:n} {X:n} a X Y -> a X Y) -> b z) -> c", "(({Y:n} b Y -> f Y) -> b z) -> c",
		"{X:n} (({Y:n} a X Y -> o Y) -> b z) -> o X -> c", "{X:n} (({Y:n} a X Y -> a X Y) -> b z) -> c",
		"((({X:n} o X) -> b z) -> b z) -> c", "((({X:n} o X -> o X) -> b z) -> b z) -> c", "((((o z -> f z) -> b z) -> b z) -> b z) -> c",
	} {
		expectFaults(t, hypotheses+"k : "+rule+".", hypothesesMode, "c", nil)
	}
	for rule, want := range map[string]fault{
		"{X:n} ({x:n} b X) -> c":                                                  {1, 0},
		"{X:n} ({x:n} a x X) -> b X -> c":                                         {2, 0},
		"{X:n} {f:n -> n} b X -> o X -> ({x:n} b (f x)) -> c":                     {4, 0},
		"{f:n -> n} ({x:n} b (f x)) -> ({x:n} o (f z)) -> c":                      {1, 0},
		"{f:n -> n -> n} ({x:n} {y:n} b (f y x)) -> ({x:n} {y:n} o (f x x)) -> c": {1, 0},
		"{X:n} (o X -> b z) -> c":                                                 {1, 0},
		"{X:n} o X -> (o X -> b z) -> c":                                          {2, 0},
		"{X:n} (a z X -> b z) -> c":                                               {1, 1},
		"{X:n} {Y:n} (a X Y -> b z) -> c":                                         {2, 1},
		// What is known by an assumption is forgotten.
		"{X:n} (b X -> b X) -> c":        {1, 0},
		"{X:n} b X -> (b X -> b z) -> c": {1, 0},
		"{X:n} (b X -> o X -> b X) -> c": {1, 0},
		// What is wrong within a premise counts as that of the premise.
		"(({Y:n} o Y) -> b z) -> c":                      {0, 0},
		"(({Y:n} b Y -> o Y) -> b z) -> c":               {0, 0},
		"(({Y:n} {X:n} a Y X -> a X Y) -> b z) -> c":     {0, 0},
		"(({Y:n} {X:n} a X z -> a X Y) -> b z) -> c":     {0, 1},
		"(({Y:n} f Y -> b Y) -> b z) -> c":               {0, none},
		"{X:n} (({Y:n} a X Y -> o Y) -> b z) -> c":       {1, 0},
		"(((o z -> f z) -> b z) -> b z) -> c":            {0, none},
		"(((({Y:n} o Y) -> b z) -> b z) -> b z) -> c":    {0, 0},
		"b z -> o z -> (({Y:n} o Y) -> b z) -> b z -> c": {2, 0},
		"b z -> o z -> ({X:n} f X -> f X) -> b z -> c":   {2, none},
		// The domains of a premise come before its end, each one after those before it.
		"{X:n} (o X -> f X) -> c":                {1, 0},
		"{X:n} (b X -> f X) -> c":                {1, none},
		"{X:n} (b X -> a z X -> b X) -> c":       {1, 1},
		"{X:n} b X -> ({x:n} o X -> a x X) -> c": {2, 0},
	} {
		expectFaults(t, hypotheses+"k : "+rule+".", hypothesesMode, "c", map[string]fault{"k": want})
	}
}

// P14.2: which variables are strict, where they stand

func TestStrictInRules(t *testing.T) {
	source := "n : type. z : n. s : n -> n. t : (n -> n) -> n. u : ((n -> n) -> n) -> n. g : n -> n -> n. p : n -> n -> type. "
	f, g, h, x := "{F:n -> n} ", "{G:n -> n -> n} ", "{H:(n -> n) -> n} ", "{X:n} "
	expectFaults(t, source+
		"k1 : "+f+"p (t [x] F x) (F z). k2 : "+f+"p (F z) (F z). k3 : "+f+"p (g (F z) (t [x] F x)) (F z). k4 : "+g+"p (t [x] G x x) z. "+
		"k5 : "+g+"p (t [x] G x x) (t [x] G x x). k6 : "+g+"p (t [x] t [y] G y x) (G z z). k7 : "+h+"p (u [f] H ([x] f x)) (H [x] x). "+
		"k8 : "+h+"p (u [f] f (H [x] f x)) (H [x] x). k9 : "+f+"p (t [x] F (s x)) (F z). "+
		"l1 : "+f+x+"p (F X) X. l2 : "+f+x+"p (g X (F X)) X. l3 : "+f+x+"p (g (F X) X) (F z). l4 : "+g+x+"p (t [x] G x X) X. l5 : "+x+"p X (t [x] X).",
		"%mode p +M -N.", "p", map[string]fault{
			"k2": {none, 1}, "k5": {none, 1}, "k9": {none, 1}, "l1": {none, 1}, "l3": {none, 1}, "l4": {none, 1},
		})
}

// P14.2: what is no type counts like a type whose family has no mode

func TestOddClasses(t *testing.T) {
	sig := written.Sig(numbers + "b : nat -> type. c : type.")
	const b, end = 6, 7
	modes := modesOf(t, sig, "%mode b -N. %mode c. %mode plus +M +N -P.")
	for _, x := range []struct {
		class             api.Term
		premise, argument int
		want              api.Errno
	}{
		// The target has other arguments than its family: assumed without a condition.
		{c(b), 0, 0, api.OK}, {c(b, c(z), c(z)), 0, 0, api.OK}, {pi(c(nat), c(b, v(0), v(0))), 0, 0, api.OK}, {pi(c(nat), c(b, v(0))), none, 0, api.ErrMode}, {c(end, c(z)), 0, 0, api.OK},
		{pi(c(nat), c(end, c(z))), 0, 0, api.OK},
		// So has a premise; or it has no target.
		{pi(c(b), c(end)), 0, none, api.ErrMode}, {pi(c(b, c(z), c(z)), c(end)), 0, none, api.ErrMode}, {pi(c(b, c(z)), c(end)), 0, 0, api.OK},
		{pi(typ(), c(end)), 0, none, api.ErrMode}, {pi(lam(c(b, c(z))), c(end)), 0, none, api.ErrMode}, {pi(c(z), c(end)), 0, none, api.ErrMode}, {pi(c(end), c(end)), 0, 0, api.OK},
		{pi(c(nat), pi(v(0), c(end))), 1, none, api.ErrMode}, {pi(pi(c(nat), typ()), c(end)), 0, none, api.ErrMode},
		// The domains of what has no target are assumed before it is used.
		{pi(c(nat), pi(pi(c(b, v(0)), typ()), c(end))), 1, 0, api.ErrMode}, {pi(pi(c(b, c(z)), typ()), c(end)), 0, none, api.ErrMode},
		// Domains of premises that have no targets, or other arguments, are assumed without a condition.
		{pi(pi(typ(), c(b, c(z))), c(end)), 0, 0, api.OK}, {pi(pi(c(b), c(b, c(z))), c(end)), 0, 0, api.OK}, {pi(c(nat), pi(pi(pi(c(b, v(0)), typ()), c(b, c(z))), c(end))), 0, 0, api.OK},
		{pi(c(nat), pi(pi(c(b, v(0), v(0)), c(b, c(z))), c(end))), 0, 0, api.OK}, {pi(c(nat), pi(pi(c(b, v(0)), c(b, c(z))), c(end))), 1, 0, api.ErrMode},
		// Arguments that are no objects.
		{c(b, typ()), 0, 0, api.OK}, {pi(c(nat), c(b, pi(v(0), v(1)))), none, 0, api.ErrMode}, {pi(c(nat), pi(c(b, pi(c(nat), v(1))), c(b, v(1)))), 0, 0, api.OK},
	} {
		odd := append(sig, decl("k", x.class))
		expectCheck(t, odd, modes, len(sig), x.premise, x.argument, x.want)
	}
}
