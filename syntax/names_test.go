package syntax

import (
	"slices"
	"testing"

	"truss/api"
)

// P2.4

func TestFree(t *testing.T) {
	names := map[string][]string{
		"a": {"a"}, "type": nil, "_": nil, "_ type": nil, "a b a": {"a", "b"}, "b a b": {"b", "a"}, "B -> a -> B": {"B", "a"},
		"a <- b":                 {"b", "a"},
		"[x] x":                  nil,
		"[x] x y x":              {"y"},
		"{x:x} x":                {"x"},
		"[x:y] x z":              {"y", "z"},
		"[x:a] f x y ([y] x z)":  {"a", "f", "y", "z"},
		"([x] x) x":              {"x"},
		"f ([x] [y] x y) y":      {"f", "y"},
		"[x] [x] x":              nil,
		"{x:[x] x} {y:x} x y":    nil,
		"{x:[y] y z} {y:x y} x":  {"z", "y"},
		"([x] a x) ([y] x y) b":  {"a", "x", "b"},
		"[f] ([x] f x -> g) g f": {"g"},
	}
	for source, want := range names {
		if got, err := Free(mustRead(t, source)); !slices.Equal(got, want) || err != api.OK {
			t.Errorf("Free(%q) = %v, %d; want %v", source, got, err, want)
		}
	}
}

func checkRename(t *testing.T, source, from, to, want string) {
	t.Helper()
	got, err := Rename(mustRead(t, source), from, to)
	if err != api.OK {
		t.Fatalf("Rename(%q, %s, %s): %d", source, from, to, err)
	}
	if text := mustText(t, got); text != want {
		t.Errorf("Rename(%q, %s, %s) = %q; want %q", source, from, to, text, want)
	}
}

func TestRename(t *testing.T) {
	checkRename(t, "a b a", "a", "c", "c b c")
	checkRename(t, "a b a", "c", "d", "a b a")
	checkRename(t, "a b a", "a", "b", "b b b")
	checkRename(t, "a", "a", "a", "a")
	checkRename(t, "type _ a", "a", "B", "type _ B")
	checkRename(t, "[a] a b", "a", "c", "[a] a b")
	checkRename(t, "[a:a] a", "a", "c", "[a:c] a")
	checkRename(t, "{x:a} [a:a x] a -> x", "a", "c", "{x:c} [a:c x] a -> x")
	checkRename(t, "([a] a) a ([x] a)", "a", "c", "([a] a) c ([x] c)")
}

func TestRenameRenamesBinders(t *testing.T) {
	checkRename(t, "[x:a] f x y ([y] x z)", "z", "y", "[x:a] f x y ([v1] x y)")
	checkRename(t, "[b] a b", "a", "b", "[v1] b v1")
	checkRename(t, "{b:b a} a b", "a", "b", "{v1:b b} b v1")
	checkRename(t, "{b} a -> b", "a", "b", "{v1} b -> v1")
	// Several binders, in the order in which they stand, each with a name of its own.
	checkRename(t, "[b] [b] a b", "a", "b", "[v1] [v2] b v2")
	checkRename(t, "([b] a b) ([b] b a)", "a", "b", "([v1] b v1) ([v2] v2 b)")
	checkRename(t, "{b:{b:b} a b} {b:a} a b", "a", "b", "{v1:{v2:b} b v2} {v3:b} b v3")
	checkRename(t, "[b] b ([c] b ([b] a b c)) b", "a", "b", "[v1] v1 ([c] v1 ([v2] b v2 c)) v1")
	// The names v1, v2, ... that occur are passed over, bound or not; so are from and to.
	checkRename(t, "[b] a b v1", "a", "b", "[v2] b v2 v1")
	checkRename(t, "[b] [v2] a b", "a", "b", "[v1] [v2] b v1")
	checkRename(t, "[b] [v1] [v2:v3] [b] a b", "a", "b", "[v4] [v1] [v2:v3] [v5] b v5")
	checkRename(t, "[v1] a v1", "a", "v1", "[v2] v1 v2")
	checkRename(t, "[b] v1 b", "v1", "b", "[v2] b v2")
	checkRename(t, "[v2] v1 v2", "v1", "v2", "[v3] v2 v3")
}

func TestRenameLeavesBinders(t *testing.T) {
	// No from in the body that is free in the whole.
	checkRename(t, "[b] b c", "a", "b", "[b] b c")
	checkRename(t, "a ([b] b)", "a", "b", "b ([b] b)")
	checkRename(t, "{b:a} b", "a", "b", "{b:b} b")
	checkRename(t, "[b] [a] a b", "a", "b", "[b] [a] a b")
	checkRename(t, "[a] [b] a b", "a", "b", "[a] [b] a b")
	checkRename(t, "[b] [a:a] a b", "a", "b", "[v1] [a:b] a v1")
	checkRename(t, "[b] ([b] b) a", "a", "b", "[v1] ([b] b) b")
	checkRename(t, "[b] [b] a", "b", "a", "[b] [b] a")
	checkRename(t, "a ([a] a) ([b] a)", "a", "a", "a ([a] a) ([b] a)")
	checkRename(t, "[a] a", "a", "a", "[a] a")
}

func TestRenameErrors(t *testing.T) {
	for _, wrong := range []string{"", "type", "_", "1", "a b", "%a", "aaaaaaaaaaaaaaaaa"} {
		for _, names := range [][2]string{{wrong, "b"}, {"b", wrong}, {wrong, wrong}} {
			if r, err := Rename(name("a"), names[0], names[1]); !equal(r, api.Raw{}) || err != api.ErrArg {
				t.Errorf("Rename(a, %q) = %v, %d", names, r, err)
			}
		}
	}
	if r, err := Rename(name("a"), "a", "X"); !equal(r, name("X")) || err != api.OK {
		t.Error(r, err)
	}
}

func TestRenameOfLargest(t *testing.T) {
	deep := app(name("a"), name("b"))
	for range api.MaxDepth - 2 {
		deep = lam("b", hole(), deep)
	}
	got, err := Rename(deep, "a", "b")
	if err != api.OK {
		t.Fatal(err)
	}
	for _, want := range numbered("v", api.MaxDepth-2) {
		if got.Name != want {
			t.Fatal(got.Name, want)
		}
		got = got.Args[1]
	}
	if text := mustText(t, got); text != "b v38" {
		t.Error(text)
	}
}

func TestRenameSharesNothing(t *testing.T) {
	r := mustRead(t, "[x:a] f x y ([y] x z)")
	before := mustText(t, r)
	for _, names := range [][2]string{{"z", "y"}, {"none", "b"}, {"a", "a"}} {
		got, err := Rename(r, names[0], names[1])
		if err != api.OK {
			t.Fatal(err)
		}
		spoil(&got)
		if after := mustText(t, r); after != before {
			t.Fatal("the argument has changed:", after)
		}
	}
}

// P2.6

func TestRenameThereAndBack(t *testing.T) {
	m := &maker{seed: 3}
	back := 0
	for range 5000 {
		r := m.raw(2 + m.below(5))
		from, to := m.name(), m.name()
		free, _ := Free(r)
		there, err := Rename(r, from, to)
		if err != api.OK {
			t.Fatal(err)
		}
		var want []string
		for _, name := range free {
			if name == from {
				name = to
			}
			if !slices.Contains(want, name) {
				want = append(want, name)
			}
		}
		if got, _ := Free(there); !slices.Equal(got, want) {
			t.Fatalf("Rename(%q, %s, %s) has %v free, not %v", mustText(t, r), from, to, got, want)
		}
		if slices.Contains(free, to) || !slices.Equal(binders(r), binders(there)) {
			continue
		}
		back++
		if again, err := Rename(there, to, from); !equal(again, r) || err != api.OK {
			t.Fatalf("%q is %q after %s was %s", mustText(t, r), mustText(t, again), from, to)
		}
	}
	if back < 1000 {
		t.Error("too few expressions were renamed back", back)
	}
}

func binders(r api.Raw) []string {
	var names []string
	if isBinder(r) {
		names = append(names, r.Name)
	}
	for _, arg := range r.Args {
		names = append(names, binders(arg)...)
	}
	return names
}
