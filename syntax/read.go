package syntax

import (
	"strconv"

	"truss/api"
	"truss/lexis"
)

// A reader reads the tokens that are left. The last one is always the TEnd, which is never taken.
type reader struct {
	tokens []api.Token
}

// A failure is what a reader panics with: the position of the first token that cannot stand where it does.
type failure struct {
	at int
}

// read reads a source by a rule of the grammar.
func read(source string, rule func(*reader)) (at int, err api.Errno) {
	tokens, at, err := lexis.Tokens(source)
	if err != api.OK {
		return at, err
	}
	defer func() {
		if f, ok := recover().(failure); ok {
			at, err = f.at, api.ErrSyntax
		}
	}()
	rule(&reader{tokens})
	return 0, api.OK
}

func (r *reader) fail() {
	panic(failure{r.tokens[0].At})
}

func (r *reader) take() api.Token {
	token := r.tokens[0]
	r.tokens = r.tokens[1:]
	return token
}

// sees reports whether the next token has this text. (No two kinds of tokens share a text.)
func (r *reader) sees(text string) bool {
	return r.tokens[0].Text == text
}

func (r *reader) accept(text string) bool {
	if !r.sees(text) {
		return false
	}
	r.take()
	return true
}

func (r *reader) expect(text string) {
	if !r.accept(text) {
		r.fail()
	}
}

func (r *reader) end() {
	if r.tokens[0].Kind != api.TEnd {
		r.fail()
	}
}

func (r *reader) seesName() bool {
	return isName(r.tokens[0].Text)
}

func (r *reader) name() string {
	if !r.seesName() {
		r.fail()
	}
	return r.take().Text
}

// items yields the items up to the end.
func (r *reader) items(yield func(api.Item) bool) {
	for r.tokens[0].Kind != api.TEnd {
		if !yield(r.item()) {
			return
		}
	}
}

func (r *reader) item() api.Item {
	if r.tokens[0].Kind == api.TWord {
		word := r.take().Text[len("%"):]
		return api.Item{Word: word, Parts: r.parts(".")}
	}
	if r.tokens[0].Kind != api.TName {
		r.fail()
	}
	name := r.name()
	r.expect(":")
	body := r.expr()
	r.expect(".")
	return api.Item{Name: name, Raw: body}
}

// parts reads parts up to a sign, and takes the sign.
func (r *reader) parts(end string) []api.Part {
	var parts []api.Part
	for !r.accept(end) {
		parts = append(parts, r.part())
	}
	return parts
}

func (r *reader) part() api.Part {
	token := r.tokens[0]
	switch token.Text {
	case "+", "-", "*":
		r.take()
		return api.Part{Op: api.PSign, Sign: token.Text, Name: r.name()}
	case ":", "|", "=":
		r.take()
		return api.Part{Op: api.PMark, Sign: token.Text}
	case "(":
		return api.Part{Op: api.PTerm, Raw: r.enclosed()}
	case "{":
		return r.braces()
	case "[":
		r.take()
		return api.Part{Op: api.PSim, Parts: r.parts("]")}
	}
	if token.Kind == api.TNum {
		r.take()
		number, _ := strconv.Atoi(token.Text)
		return api.Part{Op: api.PNum, N: number}
	}
	return api.Part{Op: api.PName, Name: r.name()}
}

func (r *reader) braces() api.Part {
	r.expect("{")
	if !r.seesName() || r.tokens[1].Text != ":" {
		return api.Part{Op: api.PLex, Parts: r.parts("}")}
	}
	name := r.name()
	r.expect(":")
	class := r.expr()
	r.expect("}")
	return api.Part{Op: api.PBind, Name: name, Raw: class}
}

func (r *reader) expr() api.Raw {
	left, last := r.back()
	if last {
		return left
	}
	if r.accept("->") {
		return pair(api.RArrow, left, r.expr())
	}
	for !last && r.accept("<-") {
		var domain api.Raw
		domain, last = r.back()
		left = pair(api.RArrow, domain, left)
	}
	return left
}

// back reads a binder or an app, and reports whether a binder ends it: then no arrow stands after it.
func (r *reader) back() (result api.Raw, last bool) {
	if r.seesBinder() {
		return r.binder(), true
	}
	result = r.atom()
	for r.seesAtom() {
		result = pair(api.RApp, result, r.atom())
	}
	if r.seesBinder() {
		return pair(api.RApp, result, r.binder()), true
	}
	return result, false
}

func (r *reader) seesBinder() bool {
	return r.sees("{") || r.sees("[")
}

func (r *reader) binder() api.Raw {
	op, end := api.RPi, "}"
	if r.take().Text == "[" {
		op, end = api.RLam, "]"
	}
	name := r.name()
	domain := api.Raw{Op: api.RHole}
	if r.accept(":") {
		domain = r.expr()
	}
	r.expect(end)
	result := pair(op, domain, r.expr())
	result.Name = name
	return result
}

func (r *reader) seesAtom() bool {
	return r.seesName() || r.sees("type") || r.sees("_") || r.sees("(")
}

func (r *reader) atom() api.Raw {
	switch {
	case r.accept("type"):
		return api.Raw{Op: api.RType}
	case r.accept("_"):
		return api.Raw{Op: api.RHole}
	case r.sees("("):
		return r.enclosed()
	}
	return api.Raw{Op: api.RName, Name: r.name()}
}

func (r *reader) enclosed() api.Raw {
	r.expect("(")
	inner := r.expr()
	r.expect(")")
	return inner
}

func pair(op int, first, second api.Raw) api.Raw {
	return api.Raw{Op: op, Args: []api.Raw{first, second}}
}
