package term

import (
	"math"
	"testing"

	"truss/api"
	"truss/build"
)

// P3.1

func TestCheck(t *testing.T) {
	proper := []api.Term{
		typ(), v(0), c(0), m(0), v(api.MaxN), c(api.MaxN), m(api.MaxN),
		pi(typ(), typ()), lam(typ()), lam(lam(v(5))), c(0, typ(), pi(v(0), v(0)), lam(v(0)), c(1), m(2, v(3))),
		broad(api.MaxNodes), tower(api.MaxDepth, c(0)), tower(api.MaxDepth-1, c(0, c(0))),
		{Op: api.TApp, Head: api.HCon, Args: []api.Term{}},
		{Op: api.TType, Args: []api.Term{}},
	}
	for _, x := range append(proper, terms(200)...) {
		if err := Check(x); err != api.OK {
			t.Errorf("Check(%v) = %d", x, err)
		}
	}
	wrong(t, func(t *testing.T, x api.Term) {
		if err := Check(x); err != api.ErrArg {
			t.Errorf("Check = %d", err)
		}
	})
}

func TestSize(t *testing.T) {
	sizes := []struct {
		term         api.Term
		nodes, depth int
	}{
		{c(2, c(2, v(0))), 3, 3},
		{typ(), 1, 1},
		{m(0), 1, 1},
		{pi(c(0), c(1, v(0), v(0))), 5, 3},
		{pi(lam(lam(v(0))), c(1)), 5, 4},
		{lam(v(0, c(0), c(0, c(0)), c(0))), 6, 4},
		{broad(api.MaxNodes), api.MaxNodes, 2},
		{tower(api.MaxDepth, c(0)), api.MaxDepth, api.MaxDepth},
		{build.Doubled(8), 511, 9},
	}
	for _, x := range sizes {
		if nodes, depth, err := Size(x.term); nodes != x.nodes || depth != x.depth || err != api.OK {
			t.Errorf("Size(%v) = %d, %d, %d; want %d, %d", x.term, nodes, depth, err, x.nodes, x.depth)
		}
	}
	wrong(t, func(t *testing.T, x api.Term) {
		if nodes, depth, err := Size(x); nodes != 0 || depth != 0 || err != api.ErrArg {
			t.Errorf("Size = %d, %d, %d", nodes, depth, err)
		}
	})
}

func TestSame(t *testing.T) {
	list := []api.Term{
		{}, typ(), v(0), c(0), m(0), v(1), c(-1), lam(v(0)), lam(v(1)), pi(c(0), c(1)), pi(c(1), c(0)), pi(c(0), c(0)), c(0, c(0)),
		c(0, c(0), c(1)), c(0, c(1), c(0)), c(0, c(0, c(1))), {Op: api.TType, N: 1}, {Op: 9, Head: 9, N: 9}, {Op: 9, Head: 8, N: 9},
		{Op: api.TPi}, {Op: api.TLam}, c(0, api.Term{}), c(0, api.Term{}, api.Term{}), c(0, c(0, c(0)), c(0)), c(0, c(0), c(0, c(0))),
	}
	for i, a := range list {
		for k, b := range list {
			if same := Same(a, clone(b)); same != (i == k) {
				t.Errorf("Same(%v, %v) = %t", a, b, same)
			}
		}
	}
	if !Same(api.Term{Op: 7}, api.Term{Op: 7, Args: []api.Term{}}) {
		t.Error("nil and empty lists are not the same")
	}
	for i, a := range terms(60) {
		for k, b := range terms(60) {
			if same := Same(a, b); same != equal(a, b) || i == k && !same {
				t.Errorf("Same(%v, %v) = %t", a, b, same)
			}
		}
	}
}

func TestSameIsDeep(t *testing.T) {
	const depth = 1 << 18
	if !Same(tower(depth, c(0)), tower(depth, c(0))) {
		t.Error("the same deep terms are not the same")
	}
	if Same(tower(depth, c(0)), tower(depth, c(1))) || Same(tower(depth, c(0)), tower(depth+1, c(0))) {
		t.Error("other deep terms are the same")
	}
	if Same(broad(depth), broad(depth+1)) || !Same(broad(depth), broad(depth)) {
		t.Error("broad terms")
	}
}

// P3.2

func checkShift(t *testing.T, x api.Term, by, from int, want api.Term, wantErr api.Errno) {
	t.Helper()
	got, err := Shift(x, by, from)
	if err != wantErr || !equal(got, want) {
		t.Errorf("Shift(%v, %d, %d) = %v, %d; want %v, %d", x, by, from, got, err, want, wantErr)
	}
}

func TestShift(t *testing.T) {
	checkShift(t, lam(v(0, v(1))), 2, 0, lam(v(0, v(3))), api.OK)
	checkShift(t, typ(), 5, 0, typ(), api.OK)
	checkShift(t, c(3, m(4)), 5, 0, c(3, m(4)), api.OK)
	checkShift(t, v(3), 0, 0, v(3), api.OK)
	checkShift(t, c(0, v(0), v(1), v(2), v(3)), 10, 2, c(0, v(0), v(1), v(12), v(13)), api.OK)
	checkShift(t, pi(v(0), pi(v(0, v(1)), v(0, v(1), v(2)))), 1, 0, pi(v(1), pi(v(0, v(2)), v(0, v(1), v(3)))), api.OK)
	checkShift(t, lam(c(0, v(0), v(1), v(2))), 1, 1, lam(c(0, v(0), v(1), v(3))), api.OK)
	checkShift(t, v(0, v(1), lam(v(1, v(2)))), 3, 1, v(0, v(4), lam(v(1, v(5)))), api.OK)
	checkShift(t, c(0, v(0), v(3), v(4)), -2, 1, c(0, v(0), v(1), v(2)), api.OK)
	checkShift(t, lam(v(0, v(2))), -1, 0, lam(v(0, v(1))), api.OK)
	checkShift(t, v(api.MaxN), -api.MaxN, 0, v(0), api.OK)
	checkShift(t, v(0), api.MaxN, 0, v(api.MaxN), api.OK)
	checkShift(t, v(api.MaxN), -1, api.MaxN, api.Term{}, api.ErrScope)
	checkShift(t, v(api.MaxN), 0, api.MaxN, v(api.MaxN), api.OK)
}

func TestShiftErrors(t *testing.T) {
	none := api.Term{}
	checkShift(t, v(0), -1, 0, none, api.ErrScope)
	checkShift(t, v(2), -3, 0, none, api.ErrScope)
	checkShift(t, v(3), -3, 0, v(0), api.OK)
	checkShift(t, v(2), -3, 2, none, api.ErrScope)
	checkShift(t, v(4), -3, 2, none, api.ErrScope)
	checkShift(t, v(5), -3, 2, v(2), api.OK)
	checkShift(t, v(1), -3, 2, v(1), api.OK)
	checkShift(t, lam(v(0)), -1, 0, lam(v(0)), api.OK)
	checkShift(t, lam(v(1)), -1, 0, none, api.ErrScope)
	checkShift(t, pi(v(0), v(0)), -1, 0, none, api.ErrScope)
	checkShift(t, c(0, v(7), c(0, v(0))), -1, 0, none, api.ErrScope)

	checkShift(t, v(api.MaxN), 1, 0, none, api.ErrFull)
	checkShift(t, v(api.MaxN-1), 1, 0, v(api.MaxN), api.OK)
	checkShift(t, v(api.MaxN-1), 1, api.MaxN, v(api.MaxN-1), api.OK)
	checkShift(t, lam(v(api.MaxN)), 1, 0, none, api.ErrFull)
	checkShift(t, lam(v(api.MaxN)), 1, api.MaxN-1, none, api.ErrFull)
	checkShift(t, lam(v(api.MaxN)), 1, api.MaxN, lam(v(api.MaxN)), api.OK)
	checkShift(t, lam(v(0)), api.MaxN, 0, lam(v(0)), api.OK)
	checkShift(t, c(api.MaxN, m(api.MaxN)), 1, 0, c(api.MaxN, m(api.MaxN)), api.OK)
	checkShift(t, c(0, v(api.MaxN), v(0)), 1, 0, none, api.ErrFull)
}

func TestShiftArguments(t *testing.T) {
	for _, by := range []int{api.MaxN + 1, -api.MaxN - 1, math.MaxInt, math.MinInt} {
		checkShift(t, v(0), by, 0, api.Term{}, api.ErrArg)
	}
	for _, from := range []int{-1, api.MaxN + 1, math.MaxInt, math.MinInt} {
		checkShift(t, c(0), 0, from, api.Term{}, api.ErrArg)
		checkShift(t, v(0), -1, from, api.Term{}, api.ErrArg)
	}
	checkShift(t, c(0), api.MaxN, api.MaxN, c(0), api.OK)
	checkShift(t, c(0), -api.MaxN, api.MaxN, c(0), api.OK)
	wrong(t, func(t *testing.T, x api.Term) {
		if got, err := Shift(x, 0, 0); !isZero(got) || err != api.ErrArg {
			t.Errorf("Shift = %v, %d", got, err)
		}
	})
}

func TestShiftIsNew(t *testing.T) {
	x := pi(c(0, v(0)), lam(c(1, v(2), c(2))))
	for _, by := range []int{0, 1} {
		y, _ := Shift(x, by, 0)
		checkNew(t, []api.Term{x}, &y)
	}
}
