package term

import (
	"maps"
	"slices"
	"strconv"
	"testing"

	"truss/api"
)

// P3.3

func checkNumbers(t *testing.T, name string, got []int, err api.Errno, want ...int) {
	t.Helper()
	if !slices.Equal(got, want) || err != api.OK {
		t.Errorf("%s: %v, %d; want %v", name, got, err, want)
	}
}

func TestFree(t *testing.T) {
	check := func(x api.Term, want ...int) {
		t.Helper()
		got, err := Free(x)
		checkNumbers(t, "Free", got, err, want...)
	}
	check(typ())
	check(v(3), 3)
	check(c(5, m(6)))
	check(lam(v(0, v(1))), 0)
	check(c(0, v(7), v(2), v(7), v(0)), 0, 2, 7)
	check(pi(v(0), v(0)), 0)
	check(pi(v(1), v(1)), 0, 1)
	check(lam(pi(v(1), lam(v(0, v(1), v(2), v(3), v(9))))), 0, 6)
	check(v(1, v(0)), 0, 1)
	check(m(4, v(2)), 2)
	check(v(api.MaxN), api.MaxN)
}

func TestConstantsAndMetas(t *testing.T) {
	x := pi(c(9, m(3)), lam(c(2, v(1), m(0, c(9)), m(3), c(0), lam(c(10)))))
	constants, err := Constants(x)
	checkNumbers(t, "Constants", constants, err, 0, 2, 9, 10)
	metas, err := Metas(x)
	checkNumbers(t, "Metas", metas, err, 0, 3)
	constants, err = Constants(v(1, m(2)))
	checkNumbers(t, "Constants", constants, err)
	metas, err = Metas(v(1, c(2)))
	checkNumbers(t, "Metas", metas, err)
}

func TestOccurs(t *testing.T) {
	x := lam(c(1, v(0), v(3), m(5), pi(v(1), v(1))))
	for n := -3; n <= 10; n++ {
		want := n == 0 || n == 2
		if got, err := Occurs(x, n); got != want || err != api.OK {
			t.Errorf("Occurs(x, %d) = %t, %d", n, got, err)
		}
	}
	if got, err := Occurs(v(api.MaxN), api.MaxN); !got || err != api.OK {
		t.Errorf("Occurs(MaxN) = %t, %d", got, err)
	}
	if got, err := Occurs(v(api.MaxN), api.MaxN+1); got || err != api.OK {
		t.Errorf("Occurs(MaxN + 1) = %t, %d", got, err)
	}
}

func TestContentsOfImproper(t *testing.T) {
	wrong(t, func(t *testing.T, x api.Term) {
		for i, list := range []func(api.Term) ([]int, api.Errno){Free, Constants, Metas} {
			if got, err := list(x); len(got) > 0 || err != api.ErrArg {
				t.Errorf("function %d = %v, %d", i, got, err)
			}
		}
		if got, err := Occurs(x, 0); got || err != api.ErrArg {
			t.Errorf("Occurs = %t, %d", got, err)
		}
	})
}

// freeOf collects the numbers of free variables by way of the text.
func freeOf(x api.Term) []int {
	found := map[int]bool{}
	text(x, 0, func(n int) string {
		found[n] = true
		return ""
	})
	return slices.Sorted(maps.Keys(found))
}

func TestContentsOfMadeTerms(t *testing.T) {
	for _, x := range terms(300) {
		free, err := Free(x)
		checkNumbers(t, "Free", free, err, freeOf(x)...)
		for n := range 8 {
			if got, _ := Occurs(x, n); got != slices.Contains(free, n) {
				t.Errorf("Occurs(%v, %d) = %t", x, n, got)
			}
		}
	}
}

// P3.7, and P3.2 once more: Shift changes the numbers of free variables and nothing else.

func shiftedText(x api.Term, by, from int) string {
	return text(x, 0, func(n int) string {
		if n >= from {
			n += by
		}
		return "f" + strconv.Itoa(n)
	})
}

func TestShiftOfMadeTerms(t *testing.T) {
	for i, x := range terms(300) {
		n, k, from := i%5, i%3, i%4
		once, err := Shift(x, n, from)
		if err != api.OK || shiftedText(once, 0, 0) != shiftedText(x, n, from) {
			t.Fatalf("Shift(%v, %d, %d) = %v, %d", x, n, from, once, err)
		}
		if back, err := Shift(once, -n, from); err != api.OK || !equal(back, x) {
			t.Errorf("Shift by %d and back of %v is %v, %d", n, x, back, err)
		}
		twice, _ := Shift(once, k, from)
		if sum, err := Shift(x, n+k, from); err != api.OK || !equal(sum, twice) {
			t.Errorf("Shift by %d and %d of %v", n, k, x)
		}
	}
}

func TestFreeOfShift(t *testing.T) {
	for _, x := range terms(200) {
		free, _ := Free(x)
		shifted, _ := Shift(x, 4, 0)
		for i := range free {
			free[i] += 4
		}
		got, err := Free(shifted)
		checkNumbers(t, "Free of Shift", got, err, free...)
	}
}

func TestArrowHasNoVariable(t *testing.T) {
	for _, x := range terms(200) {
		arrow, err := Arrow(c(0), x)
		if err != api.OK {
			t.Fatalf("Arrow(%v) = %d", x, err)
		}
		if occurs, _ := Occurs(arrow.Args[1], 0); occurs {
			t.Errorf("the variable occurs in Arrow(%v)", x)
		}
		if body, err := Shift(arrow.Args[1], -1, 0); err != api.OK || !equal(body, x) {
			t.Errorf("the body of Arrow(%v) is %v", x, arrow.Args[1])
		}
	}
}
