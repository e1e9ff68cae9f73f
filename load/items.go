package load

import (
	"iter"

	"truss/api"
	"truss/copies"
	"truss/elab"
	"truss/print"
	"truss/sign"
	"truss/syntax"
)

// isFormed reports whether a loaded source is one.
func isFormed(l api.Loaded) bool {
	if sign.Check(l.Sig) != api.OK || len(l.Words) > api.MaxItems {
		return false
	}
	before := 0
	for _, d := range l.Words {
		if d.Item.Word == "" || syntax.CheckItem(d.Item) != api.OK || d.After < before || d.After > len(l.Sig) {
			return false
		}
		before = d.After
	}
	return true
}

// lines hands on the lines of the constants and the texts of the directives of a loaded source, in their order.
func lines(l api.Loaded) iter.Seq2[string, api.Errno] {
	return func(yield func(string, api.Errno) bool) {
		words := l.Words
		for n := range len(l.Sig) + 1 {
			for len(words) > 0 && words[0].After == n {
				if !yield(syntax.TextItem(words[0].Item)) {
					return
				}
				words = words[1:]
			}
			if n < len(l.Sig) && !yield(print.Line(l.Sig, n)) {
				return
			}
		}
	}
}

// A fault is an error, and its position. The zero fault is none.
type fault struct {
	at  int
	err api.Errno
}

// items hands on the items of a source. One that cannot be read has no items, but a fault.
func items(source string) iter.Seq2[api.Item, fault] {
	return func(yield func(api.Item, fault) bool) {
		list, at, err := syntax.Items(source)
		if err != api.OK {
			yield(api.Item{}, fault{at, err})
			return
		}
		for _, x := range list {
			if !yield(x, fault{}) {
				return
			}
		}
	}
}

// A loading is what is loaded as yet, and how many items of the source have been added to it.
type loading struct {
	api.Loaded
	added int
}

// begin returns a loading that has a copy of what is loaded before.
func begin(l api.Loaded) loading {
	before := api.Loaded{Sig: copies.Sig(l.Sig)}
	for _, d := range l.Words {
		before.Words = append(before.Words, api.Directive{Item: copies.Item(d.Item), After: d.After})
	}
	return loading{before, 0}
}

// add adds the next item of the source.
func (l *loading) add(x api.Item) fault {
	if err := l.addItem(x); err != api.OK {
		return fault{l.added, err}
	}
	l.added++
	return fault{}
}

func (l *loading) addItem(x api.Item) api.Errno {
	if x.Word == "" {
		longer, err := elab.Declare(l.Sig, x.Name, x.Raw)
		l.Sig = longer
		return err
	}
	if len(l.Words) >= api.MaxItems {
		return api.ErrFull
	}
	l.Words = append(l.Words, api.Directive{Item: x, After: len(l.Sig)})
	return api.OK
}
