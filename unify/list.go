package unify

import "iter"

// A list is a list whose elements are linked both ways.
type list[E any] struct {
	// ring is before the first element and after the last one; it has no value.
	ring element[E]
	size int
}

type element[E any] struct {
	before, after *element[E]
	value         E
}

func newList[E any](values ...E) *list[E] {
	l := &list[E]{}
	l.clear()
	for _, value := range values {
		l.pushBack(value)
	}
	return l
}

func (l *list[E]) clear() {
	l.ring.before, l.ring.after = &l.ring, &l.ring
	l.size = 0
}

// insert puts a value before an element of the list.
func (l *list[E]) insert(value E, after *element[E]) {
	e := &element[E]{before: after.before, after: after, value: value}
	e.before.after, e.after.before = e, e
	l.size++
}

func (l *list[E]) pushBack(value E) {
	l.insert(value, &l.ring)
}

// pushFront puts values before all others, in their order.
func (l *list[E]) pushFront(values ...E) {
	first := l.ring.after
	for _, value := range values {
		l.insert(value, first)
	}
}

// takeFirst removes the first element of a list that is not empty, and returns its value.
func (l *list[E]) takeFirst() E {
	e := l.ring.after
	e.before.after, e.after.before = e.after, e.before
	l.size--
	return e.value
}

// pushAll moves all elements of another list to the end.
func (l *list[E]) pushAll(other *list[E]) {
	if other.size == 0 {
		return
	}
	first, last := other.ring.after, other.ring.before
	first.before, last.after = l.ring.before, &l.ring
	first.before.after, l.ring.before = first, last
	l.size += other.size
	other.clear()
}

// all visits the values, from the first one on.
func (l *list[E]) all() iter.Seq[E] {
	return func(yield func(value E) bool) {
		for e := l.ring.after; e != &l.ring; e = e.after {
			if !yield(e.value) {
				return
			}
		}
	}
}
