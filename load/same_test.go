package load_test

import (
	"testing"

	"truss/api"
	"truss/build"
	"truss/load"
)

// rawNames returns an expression that is applied to names.
func rawNames(names ...string) api.Raw {
	r := api.Raw{Op: api.RName, Name: "f"}
	for _, name := range names {
		r = api.Raw{Op: api.RApp, Args: []api.Raw{r, {Op: api.RName, Name: name}}}
	}
	return r
}

// manyLoaded returns loaded sources, formed or not, of which no two are the same.
func manyLoaded() []api.Loaded {
	list := []api.Loaded{{}, {Sig: build.Numbers()}, {Sig: build.Numbers()[:5]}, {Sig: build.Whole()}, {Words: words(1)}, {Words: words(2)}, {Sig: build.Numbers(), Words: words(1)}}
	for _, d := range []api.Decl{
		{}, {Name: "a"}, {Name: "b"}, {Implicit: 1}, {Implicit: -1}, {Class: typ()}, {Class: c(0)}, {Class: c(1)}, {Class: c(0, c(0))}, {Class: c(0, c(1))}, {Class: v(0)},
		{Class: api.Term{Op: 9}}, {Name: "a", Class: typ()}, {Name: "a", Class: typ(), Implicit: 1}, {Class: build.Lams(100000, c(0))}, {Class: build.Lams(100000, c(1))},
	} {
		list = append(list, api.Loaded{Sig: []api.Decl{d}}, api.Loaded{Sig: []api.Decl{d, decl("z", typ())}})
	}
	for _, x := range manyItems() {
		list = append(list, api.Loaded{Words: []api.Directive{{Item: x}}}, api.Loaded{Words: []api.Directive{{Item: x, After: 1}}}, api.Loaded{Words: []api.Directive{{After: -1}, {Item: x}}})
	}
	return list
}

// manyItems returns items, well formed or not, of which no two are the same.
func manyItems() []api.Item {
	items := []api.Item{{}, {Word: "a"}, {Word: "b"}, {Name: "a"}, {Name: "b"}, {Raw: rawNames()}, {Raw: rawNames("a")}, {Raw: rawNames("b")}, {Raw: rawNames("a", "b")}, {Raw: api.Raw{Op: api.RHole}}}
	deep := func(p api.Part) api.Part {
		for range 100000 {
			p = api.Part{Op: api.PLex, Parts: []api.Part{p}}
		}
		return p
	}
	a, b := api.Part{Name: "a"}, api.Part{Name: "b"}
	for _, parts := range [][]api.Part{
		{{}}, {{}, {}}, {{Op: 1}}, {{Op: -1}}, {{Sign: "+"}}, {{Sign: "-"}}, {a}, {b}, {a, b}, {b, a}, {a, a}, {a, a, a}, {{N: 1}}, {{N: 2}}, {{Raw: rawNames()}}, {{Raw: rawNames("a")}},
		{{Parts: []api.Part{a}}}, {{Parts: []api.Part{b}}}, {{Parts: []api.Part{a, b}}}, {{Parts: []api.Part{a}}, b}, {a, {Parts: []api.Part{b}}}, {{Parts: []api.Part{b}}, a},
		{{Parts: []api.Part{{Parts: []api.Part{a}}}}}, {{Parts: []api.Part{{Parts: []api.Part{a}}, b}}}, {{Op: 1, Parts: []api.Part{{Raw: rawNames("b")}}}}, {deep(a)}, {deep(b)}, {deep(a), a},
	} {
		items = append(items, api.Item{Parts: parts})
	}
	return items
}

// P11.4

func TestSame(t *testing.T) {
	first, second := manyLoaded(), manyLoaded()
	for i, a := range first {
		for j, b := range second {
			if got := load.Same(a, b); got != (i == j) {
				t.Errorf("Same of %d and %d is %v", i, j, got)
			}
		}
	}
}

// nil and empty lists are equal.
func TestSameEmpty(t *testing.T) {
	emptyParts := []api.Part{{Raw: api.Raw{Args: []api.Raw{}}, Parts: []api.Part{}}}
	for _, x := range [][2]api.Loaded{
		{{}, {Sig: []api.Decl{}, Words: []api.Directive{}}},
		{{Sig: []api.Decl{{}}}, {Sig: []api.Decl{{Class: api.Term{Args: []api.Term{}}}}}},
		{{Words: []api.Directive{{}}}, {Words: []api.Directive{{Item: api.Item{Raw: api.Raw{Args: []api.Raw{}}, Parts: []api.Part{}}}}}},
		{{Words: []api.Directive{{Item: api.Item{Parts: []api.Part{{}}}}}}, {Words: []api.Directive{{Item: api.Item{Parts: emptyParts}}}}},
	} {
		if !load.Same(x[0], x[1]) || !load.Same(x[1], x[0]) {
			t.Errorf("%v and %v are not the same", x[0], x[1])
		}
	}
}

// Same changes nothing.
func TestSameMemory(t *testing.T) {
	a, b := api.Part{Name: "a", Parts: []api.Part{{Name: "b"}}}, api.Part{Name: "c"}
	room := []api.Part{a, b, {Name: "d"}, {Name: "e"}}
	l := api.Loaded{Words: []api.Directive{{Item: api.Item{Parts: room[:2]}}}}
	if !load.Same(l, l) || room[2].Name != "d" || room[0].Name != "a" || room[1].Name != "c" || room[0].Parts[0].Name != "b" {
		t.Errorf("Same changes what it is given: %v", room)
	}
}
