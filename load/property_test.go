package load_test

import (
	"strconv"
	"strings"
	"testing"

	"truss/api"
	"truss/build"
	"truss/check"
	"truss/load"
	"truss/maker"
	"truss/print"
	"truss/syntax"
	"truss/term"
)

// base is a source of most of Whole.
const base = numbers + vectors + functions

// A writer makes sources.
type writer struct {
	*maker.Maker
}

// item returns an item that looks like a random one: a declaration in which something may be omitted, or a directive.
func (w writer) item(name string) string {
	if w.Below(5) == 0 {
		return []string{"%mode plus +M +N -P.", "%w.", "%w (" + name + ") {a b}.", "%total {M N} (plus M N _)."}[w.Below(4)]
	}
	a, ok := w.Class(nil, 4)
	for !ok {
		a, ok = w.Class(nil, 4)
	}
	sig := build.Whole()
	r, err := print.Raw(sig, nil, 0, a)
	if err != api.OK {
		return name + " : nat."
	}
	if w.Below(3) > 0 {
		r = w.Omitting(r, nil)
	}
	if w.Below(4) == 0 {
		r = api.Raw{Op: api.RArrow, Args: []api.Raw{r, {Op: api.RType}}}
	}
	text, _ := syntax.TextItem(api.Item{Name: name, Raw: r})
	return text
}

// source returns a source of at most so many items.
func (w writer) source(most int) string {
	var list []string
	for n := range w.Below(most + 1) {
		name := "k" + strconv.Itoa(n)
		if w.Below(20) == 0 {
			name = "k" + strconv.Itoa(w.Below(9))
		}
		list = append(list, w.item(name))
	}
	return strings.Join(list, "\n")
}

// omitsInClasses reports whether a constant with implicit arguments occurs in a class.
func omitsInClasses(sig []api.Decl) bool {
	for _, d := range sig {
		constants, _ := term.Constants(d.Class)
		for _, n := range constants {
			if sig[n].Implicit > 0 {
				return true
			}
		}
	}
	return false
}

// P11.5: what is loaded is valid, and its text is loaded as the same

func TestAgain(t *testing.T) {
	w := writer{maker.New(nil)}
	errors, again := map[api.Errno]int{}, map[api.Errno]int{}
	implicit := 0
	for range 1200 {
		source := base + "\n" + w.source(5)
		l, at, err := load.Load(source)
		errors[err]++
		if err != api.OK {
			if !isEmpty(l) || at < 14 {
				t.Errorf("Load of %q = %v, error %d at %d", source, l, err, at)
			}
			continue
		}
		if n, err := check.Signature(l.Sig); n != len(l.Sig) || err != api.OK {
			t.Errorf("Load of %q: error %d of the kernel at %d", source, err, n)
		}
		text, err := load.Text(l)
		if err == api.ErrFull || omitsInClasses(l.Sig) {
			continue
		}
		second, at, secondErr := load.Load(text)
		again[secondErr]++
		if err != api.OK || secondErr == api.OK && !load.Same(l, second) {
			t.Errorf("Text of %q is %q, %d, which is another one", source, text, err)
		}
		if secondErr != api.OK && secondErr != api.ErrFull && secondErr != api.ErrOpen {
			t.Errorf("Text of %q is %q: error %d at %d", source, text, secondErr, at)
		}
		if len(l.Sig) > 14 && l.Sig[len(l.Sig)-1].Implicit > 0 {
			implicit++
		}
	}
	if errors[api.OK] < 300 || again[api.OK] < 300 || implicit < 30 || len(errors) < 4 {
		t.Errorf("only %v, again %v, %d with implicit arguments", errors, again, implicit)
	}
}

// The examples of the document, with their directives.
func TestExamplesAgain(t *testing.T) {
	for _, source := range []string{"", directives, numbers, numbers + directives, base + directives, directives + base, vectorsAfter(directives)} {
		l := loaded(t, source)
		if again := loaded(t, mustText(t, l)); !load.Same(l, again) {
			t.Errorf("Text of %q is another one: %q", source, mustText(t, l))
		}
	}
}

func vectorsAfter(between string) string { return numbers + between + vectors + between }

// P11.6: parts

func TestParts(t *testing.T) {
	w := writer{maker.New(nil)}
	right, wrong := 0, 0
	for range 1200 {
		first, second := base+w.source(3), w.source(3)
		l, _, err := load.Load(first)
		if err != api.OK {
			continue
		}
		parts, _, partsErr := load.More(l, second)
		whole, _, wholeErr := load.Load(first + "\n" + second)
		if partsErr != wholeErr || !load.Same(parts, whole) {
			t.Errorf("%q and %q are %v, %d; together %v, %d", first, second, parts, partsErr, whole, wholeErr)
		}
		if partsErr == api.OK {
			right++
		} else {
			wrong++
		}
	}
	if right < 300 || wrong < 100 {
		t.Errorf("only %d are right, %d wrong", right, wrong)
	}
}
