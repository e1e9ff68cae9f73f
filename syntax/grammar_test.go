package syntax

import (
	"strings"
	"testing"

	"truss/api"
)

// The grammar of the chapter, apart from the reader: without empty sides, and with what the text under the grammar says
// (nothing follows a binder: R is an app that ends with one; a name and a : in braces begin a binding: K, J).
// S is an expr, I a source that is not empty.
const grammar = `
S = X
X = B | A | R | A -> X | A L
L = <- A | <- A L | <- B | <- R
R = A B
A = T | A T
T = type | a | _ | ( X )
B = { a } X | { a : X } X | [ a ] X | [ a : X ] X
I = M | M I
M = a : X . | %w . | %w P .
P = Q | Q P
Q = a | : | O
O = + a | 3 | ( X ) | { a : X } | { } | { K } | [ ] | [ P ] | =
K = a | a J | : | : P | O | O P
J = a | a P | O | O P
`

type production struct {
	left  string
	right []string
}

func productions() []production {
	var list []production
	for _, line := range strings.Split(strings.TrimSpace(grammar), "\n") {
		left, right, _ := strings.Cut(line, " = ")
		for _, side := range strings.Split(right, " | ") {
			list = append(list, production{left, strings.Fields(side)})
		}
	}
	return list
}

// A progress is a production whose right side was begun at a token, and is read up to dot.
type progress struct {
	rule, dot, begin int
}

// A recognizer is one of Earley's: a column of progresses for each token read, and one before them.
type recognizer struct {
	rules   []production
	columns [][]progress
}

func newRecognizer(start string) *recognizer {
	r := &recognizer{rules: productions()}
	r.columns = [][]progress{r.closed(r.predicted(start, 0))}
	return r
}

func (r *recognizer) next(p progress) string {
	if right := r.rules[p.rule].right; p.dot < len(right) {
		return right[p.dot]
	}
	return ""
}

func (r *recognizer) predicted(left string, at int) []progress {
	var list []progress
	for i, rule := range r.rules {
		if rule.left == left {
			list = append(list, progress{i, 0, at})
		}
	}
	return list
}

func (r *recognizer) closed(column []progress) []progress {
	at := len(r.columns)
	known := map[progress]bool{}
	var result []progress
	add := func(list []progress) {
		for _, p := range list {
			if !known[p] {
				known[p] = true
				result = append(result, p)
			}
		}
	}
	add(column)
	for i := 0; i < len(result); i++ {
		if p := result[i]; r.next(p) == "" {
			add(r.advanced(r.columns[p.begin], r.rules[p.rule].left))
		} else {
			add(r.predicted(r.next(p), at))
		}
	}
	return result
}

func (r *recognizer) advanced(column []progress, symbol string) []progress {
	var list []progress
	for _, p := range column {
		if r.next(p) == symbol {
			list = append(list, progress{p.rule, p.dot + 1, p.begin})
		}
	}
	return list
}

// take reports whether a token may stand after those that were taken, and takes it.
func (r *recognizer) take(token string) bool {
	column := r.advanced(r.columns[len(r.columns)-1], token)
	if len(column) == 0 {
		return false
	}
	r.columns = append(r.columns, r.closed(column))
	return true
}

func (r *recognizer) untake() {
	r.columns = r.columns[:len(r.columns)-1]
}

// isWhole reports whether the tokens that were taken are a source.
func (r *recognizer) isWhole(start string) bool {
	for _, p := range r.columns[len(r.columns)-1] {
		if p.begin == 0 && r.rules[p.rule].left == start && r.next(p) == "" {
			return true
		}
	}
	return false
}

// P2.1: the position of an error is that of the first token that in no source stands after those before it.
func checkPlaces(t *testing.T, start string, tokens []string, most int, read func(source string) (int, api.Errno)) {
	r := newRecognizer(start)
	count := 0
	var visit func(before string, left int)
	visit = func(before string, left int) {
		for _, token := range tokens {
			source := before + token
			wantAt, want := len(before), api.ErrSyntax
			fits := r.take(token)
			if fits && r.isWhole(start) {
				wantAt, want = 0, api.OK
			} else if fits {
				wantAt = len(source)
			}
			at, err := read(source)
			count++
			if at != wantAt || err != want {
				t.Errorf("%q: %d, %d; want %d, %d", source, at, err, wantAt, want)
			}
			if fits {
				if left > 1 {
					visit(source+" ", left-1)
				}
				r.untake()
			}
		}
	}
	visit("", most)
	t.Log(count, "sources")
}

func TestPlacesOfErrorsInExpr(t *testing.T) {
	tokens := []string{"a", "type", "_", "(", ")", "{", "}", "[", "]", ":", "->", "<-", ".", "%w", "+", "3"}
	checkPlaces(t, "S", tokens, 6, func(source string) (int, api.Errno) {
		_, at, err := Expr(source)
		return at, err
	})
}

func TestPlacesOfErrorsInItems(t *testing.T) {
	tokens := []string{"a", "type", "_", "(", ")", "{", "}", "[", "]", ":", "->", "<-", ".", "%w", "+", "3", "="}
	checkPlaces(t, "I", tokens, 6, func(source string) (int, api.Errno) {
		_, at, err := Items(source)
		return at, err
	})
}
