package unify

import (
	"slices"
	"testing"
)

func expectList(t *testing.T, l *list[int], want ...int) {
	t.Helper()
	if got := slices.Collect(l.all()); !slices.Equal(got, want) || l.size != len(want) {
		t.Errorf("the list is %v, of the size %d, want %v", got, l.size, want)
	}
	var backwards []int
	for e := l.ring.before; e != &l.ring; e = e.before {
		backwards = append(backwards, e.value)
	}
	slices.Reverse(want)
	if !slices.Equal(backwards, want) {
		t.Errorf("the list is %v backwards, want %v", backwards, want)
	}
}

// Ways of P9.1: the queue is a list whose elements are linked both ways

func TestList(t *testing.T) {
	l := newList(1, 2)
	expectList(t, l, 1, 2)
	l.pushFront(7, 8, 9)
	l.pushFront()
	l.pushBack(3)
	expectList(t, l, 7, 8, 9, 1, 2, 3)
	for _, want := range []int{7, 8, 9} {
		if got := l.takeFirst(); got != want {
			t.Errorf("the first one is %d, want %d", got, want)
		}
	}
	expectList(t, l, 1, 2, 3)
	other := newList(4, 5)
	l.pushAll(other)
	l.pushAll(newList[int]())
	expectList(t, l, 1, 2, 3, 4, 5)
	expectList(t, other)
	other.pushBack(6)
	expectList(t, other, 6)
	empty := newList[int]()
	empty.pushAll(l)
	expectList(t, empty, 1, 2, 3, 4, 5)
	expectList(t, l)
	for range 5 {
		empty.takeFirst()
	}
	expectList(t, empty)
	for value := range newList(1, 2, 3).all() {
		if value == 2 {
			break
		}
	}
}
