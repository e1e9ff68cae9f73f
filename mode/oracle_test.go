package mode_test

import (
	"slices"
	"testing"

	"truss/api"
	"truss/elab"
	"truss/maker"
	"truss/mode"
	"truss/print"
	"truss/sign"
	"truss/subst"
	"truss/term"
)

// A variable of a context, the last one of which is the variable 0.
type variable struct {
	open, known bool
}

// An oracle checks classes as the chapter says, in another way: each type is moved to the context of all variables of its rule.
type oracle struct {
	sig   []api.Decl
	modes []api.Mode
}

// signs returns the signs of the family of a TApp, if there are any that count.
func (o oracle) signs(t api.Term) ([]int, bool) {
	for _, x := range o.modes {
		if t.Op == api.TApp && t.Head == api.HCon && t.N == x.Family && len(t.Args) == len(x.Signs) {
			return x.Signs, true
		}
	}
	return nil, false
}

func (o oracle) assume(ctx []variable, t api.Term) (fault, bool) {
	domains, end, _ := term.Split(t)
	signs, ok := o.signs(end)
	if !ok {
		return fault{}, true
	}
	inner := slices.Clone(ctx)
	for i := range domains {
		rest, _ := term.Join(domains[i+1:], end)
		occurs, _ := term.Occurs(rest, 0)
		inner = append(inner, variable{open: occurs})
	}
	inner = learned(inner, end.Args, signs, in)
	for i := len(domains) - 1; i >= 0; i-- {
		if inner[len(ctx)+i].open {
			continue
		}
		premise, _ := term.Shift(domains[i], len(domains)-i, 0)
		next, f, ok := o.use(inner, premise)
		if !ok {
			return fault{i, f.argument}, false
		}
		inner = next
	}
	at, ok := unknown(inner, end.Args, signs, out)
	return fault{none, at}, ok
}

func (o oracle) use(ctx []variable, t api.Term) ([]variable, fault, bool) {
	if t.Op == api.TPi {
		if f, ok := o.assume(ctx, t.Args[0]); !ok {
			return nil, f, false
		}
		after, f, ok := o.use(append(slices.Clone(ctx), variable{}), t.Args[1])
		if !ok {
			return nil, f, false
		}
		return after[:len(ctx)], fault{}, true
	}
	signs, ok := o.signs(t)
	if !ok {
		return nil, fault{none, none}, false
	}
	if at, ok := unknown(ctx, t.Args, signs, in); !ok {
		return nil, fault{none, at}, false
	}
	return learned(ctx, t.Args, signs, out), fault{}, true
}

// unknown returns the position of the first argument with a sign that is not known, and whether all are.
func unknown(ctx []variable, args []api.Term, signs []int, sign int) (int, bool) {
	for at, arg := range args {
		for n := range ctx {
			x := ctx[len(ctx)-1-n]
			if occurs, _ := term.Occurs(arg, n); occurs && x.open && !x.known && signs[at] == sign {
				return at, false
			}
		}
	}
	return 0, true
}

// learned returns the context after the arguments with a sign have become known.
func learned(ctx []variable, args []api.Term, signs []int, sign int) []variable {
	after := slices.Clone(ctx)
	isOpen := func(n int) bool { return ctx[len(ctx)-1-n].open }
	for at, arg := range args {
		for n := range ctx {
			if signs[at] == sign && isOpen(n) && isStrict(arg, n, 0, isOpen) {
				after[len(ctx)-1-n].known = true
			}
		}
	}
	return after
}

// isStrict reports whether an open variable is strict in a part of an object, with so many binders around it.
func isStrict(t api.Term, n, binders int, isOpen func(n int) bool) bool {
	switch {
	case t.Op == api.TLam:
		return isStrict(t.Args[0], n, binders+1, isOpen)
	case t.Op == api.TPi:
		return isStrict(t.Args[0], n, binders, isOpen) || isStrict(t.Args[1], n, binders+1, isOpen)
	case t.Head == api.HVar && t.N >= binders && isOpen(t.N-binders):
		return t.N-binders == n && areVariables(t.Args, binders, isOpen)
	}
	return slices.ContainsFunc(t.Args, func(arg api.Term) bool { return isStrict(arg, n, binders, isOpen) })
}

// areVariables reports whether objects are long forms of different variables that are bound or fixed.
func areVariables(list []api.Term, binders int, isOpen func(n int) bool) bool {
	seen := map[int]bool{}
	for _, x := range list {
		head, n, err := subst.Short(x)
		if err != api.OK || head != api.HVar || seen[n] || n >= binders && isOpen(n-binders) {
			return false
		}
		seen[n] = true
	}
	return true
}

// expectOracle checks that Check comes to the same as the oracle, for a constant.
func (o oracle) expectOracle(t *testing.T, n int) (fault, bool) {
	t.Helper()
	f, ok := o.assume(nil, o.sig[n].Class)
	if ok {
		f = fault{}
	}
	err := api.OK
	if !ok {
		err = api.ErrMode
	}
	expectCheck(t, o.sig, o.modes, n, f.premise, f.argument, err)
	return f, ok
}

// A writer makes rules and modes that look like random ones.
type writer struct {
	*maker.Maker
}

// modes makes modes of some families.
func (w writer) modes(sig []api.Decl) []api.Mode {
	var list []api.Mode
	for n, d := range sig {
		domains, end, _ := term.Split(d.Class)
		if end.Op != api.TType || w.Below(8) == 0 {
			continue
		}
		x := api.Mode{Family: n}
		for range domains {
			x.Signs = append(x.Signs, 1+w.Below(3))
		}
		list = append(list, x)
	}
	return list
}

// rule makes a class, in which some arguments are omitted.
func (w writer) rule(sig []api.Decl) (api.Term, bool) {
	a, ok := w.Class(nil, 4)
	r, err := print.Raw(sig, nil, 0, a)
	if !ok || err != api.OK {
		return api.Term{}, false
	}
	class, _, err := elab.Class(sig, w.Omitting(r, nil))
	return class, err == api.OK
}

// P14.2: what the oracle finds, for rules of all kinds

func TestMadeRules(t *testing.T) {
	w := writer{maker.New(nil)}
	found, right, higher := map[fault]int{}, 0, 0
	for range 25000 {
		sig := whole()
		class, ok := w.rule(sig)
		if !ok {
			continue
		}
		if w.Below(3) == 0 {
			class = w.Spoiled(class)
		}
		sig = append(sig, decl("k", class))
		if isFamily, err := sign.IsFamily(sig, len(sig)-1); isFamily || err != api.OK {
			continue
		}
		o := oracle{sig, w.modes(sig)}
		f, ok := o.expectOracle(t, len(sig)-1)
		if ok {
			right++
		} else {
			found[f]++
		}
		if domains, _, _ := term.Split(class); slices.ContainsFunc(domains, func(a api.Term) bool { return a.Op == api.TPi }) {
			higher++
		}
	}
	if right < 2000 || len(found) < 9 || found[fault{none, 0}] < 200 || higher < 300 {
		t.Errorf("only %d are right, %d with a rule as a premise; wrong are %v", right, higher, found)
	}
}

// P14.2: All is the first one that Check finds

func TestAll(t *testing.T) {
	w := writer{maker.New(nil)}
	wrong := 0
	for range 3000 {
		sig := whole()
		for n := range 3 {
			if class, ok := w.rule(whole()); ok {
				sig = append(sig, decl("k"+string(rune('a'+n)), class))
			}
		}
		o := oracle{sig, w.modes(sig)}
		for family := range sig {
			list, err := sign.Of(sig, family)
			if err != api.OK {
				continue
			}
			want, wantErr := 0, api.OK
			for _, n := range slices.Backward(list) {
				if _, ok := o.expectOracle(t, n); !ok {
					want, wantErr = n, api.ErrMode
				}
			}
			if got, err := mode.All(sig, o.modes, family); got != want || err != wantErr {
				t.Errorf("All of %d = %d, %d; want %d, %d", family, got, err, want, wantErr)
			}
			if wantErr != api.OK {
				wrong++
			}
		}
	}
	if wrong < 1000 {
		t.Errorf("only %d families are wrong", wrong)
	}
}
