package lexis

import (
	"strconv"
	"strings"

	"truss/api"
)

// notAllowed stands for the kind of a token where no token is allowed.
const notAllowed = 0

// The kinds of first bytes.
const (
	otherByte = iota
	letter
	underscore
	digit
	percent
	signByte
	byteKinds
)

// A cutter returns the kind and the length of the token that a text begins with.
type cutter func(text string) (kind, length int)

// A table holds the cutter of each kind of first byte.
type table [byteKinds]cutter

func newTable() table {
	return table{
		otherByte:  cutNothing,
		letter:     wordCutter(0, nameKind),
		underscore: wordCutter(0, holeKind),
		digit:      wordCutter(0, numberKind),
		percent:    wordCutter(1, directiveKind),
		signByte:   cutSign,
	}
}

// cut cuts the first token of a text that is not empty.
func (t table) cut(text string) (kind, length int) {
	return t[byteKind(text[0])](text)
}

// makes reports whether the text of a token, cut alone, is this token.
func (t table) makes(token api.Token) bool {
	if token.Text == "" {
		return false
	}
	kind, length := t.cut(token.Text)
	return kind != notAllowed && kind == token.Kind && length == len(token.Text)
}

func byteKind(first byte) int {
	switch {
	case isLetter(first):
		return letter
	case first == '_':
		return underscore
	case isDigit(first):
		return digit
	case first == '%':
		return percent
	case strings.IndexByte(":.{}[]()+-*|=<", first) >= 0:
		return signByte
	}
	return otherByte
}

// wordCutter returns the cutter of tokens that end with the longest sequence of name bytes, after as many other bytes
// as prefix says. (A hole is one, too: it is such a sequence of one byte alone.)
func wordCutter(prefix int, kindOf func(word string) int) cutter {
	return func(text string) (int, int) {
		length := prefix + nameLength(text[prefix:])
		return kindOf(text[prefix:length]), length
	}
}

func nameKind(word string) int {
	switch {
	case IsSmall(word):
		return api.TName
	case IsCapital(word):
		return api.TUpper
	}
	return notAllowed
}

func holeKind(word string) int {
	if word == "_" {
		return api.THole
	}
	return notAllowed
}

func numberKind(word string) int {
	number, err := strconv.Atoi(word)
	// The comparison excludes superfluous zeros.
	if err != nil || number > api.MaxNumber || strconv.Itoa(number) != word {
		return notAllowed
	}
	return api.TNum
}

func directiveKind(word string) int {
	if IsSmall(word) {
		return api.TWord
	}
	return notAllowed
}

func cutSign(text string) (kind, length int) {
	switch text[0] {
	case '<':
		if !strings.HasPrefix(text, "<-") {
			return notAllowed, 0
		}
		return api.TSign, len("<-")
	case '-':
		if strings.HasPrefix(text, "->") {
			return api.TSign, len("->")
		}
		fallthrough
	default:
		return api.TSign, 1
	}
}

func cutNothing(string) (kind, length int) {
	return notAllowed, 0
}
