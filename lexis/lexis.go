// Package lexis is layer 1: see shared/doc/01-lexis.md.
package lexis

import (
	"strings"

	"truss/api"
)

// Tokens cuts a source into tokens. With ErrSyntax it returns the position of the token that is not allowed.
func Tokens(source string) ([]api.Token, int, api.Errno) {
	if len(source) > api.MaxSource {
		return nil, 0, api.ErrFull
	}
	cutters := newTable()
	var tokens []api.Token
	at := skip(source, 0)
	for at < len(source) {
		kind, length := cutters.cut(source[at:])
		if kind == notAllowed {
			return nil, at, api.ErrSyntax
		}
		tokens = append(tokens, api.Token{Kind: kind, Text: source[at : at+length], At: at})
		at = skip(source, at+length)
	}
	return append(tokens, api.Token{Kind: api.TEnd, At: at}), 0, api.OK
}

// Join returns the texts of tokens, with one blank between any two.
func Join(tokens []api.Token) (string, api.Errno) {
	cutters := newTable()
	var texts []string
	for _, token := range tokens {
		if token.Kind == api.TEnd && token.Text == "" {
			continue
		}
		if !cutters.makes(token) {
			return "", api.ErrArg
		}
		texts = append(texts, token.Text)
	}
	return strings.Join(texts, " "), api.OK
}

// Place returns the line and the column of a position, both counted from 1.
func Place(source string, at int) (int, int, api.Errno) {
	if at < 0 || at > len(source) {
		return 0, 0, api.ErrArg
	}
	before := source[:at]
	line := 1 + strings.Count(before, "\n")
	column := at - strings.LastIndexByte(before, '\n')
	return line, column, api.OK
}

// skip returns the position of the first byte from at on that is neither a blank nor in a comment, or the length.
func skip(source string, at int) int {
scan:
	for at < len(source) {
		switch {
		case isBlank(source[at]):
			at++
		case beginsComment(source[at:]):
			for at++; at < len(source); at++ {
				if source[at] == '\n' {
					continue scan
				}
			}
		default:
			return at
		}
	}
	return at
}

func beginsComment(text string) bool {
	return text[0] == '%' && (len(text) == 1 || text[1] == '%' || isBlank(text[1]))
}
