package lexis

import "truss/api"

// IsSmall reports whether a string is a small name.
func IsSmall(s string) bool {
	return isName(s) && isSmallLetter(s[0])
}

// IsCapital reports whether a string is a capital name.
func IsCapital(s string) bool {
	return isName(s) && isCapitalLetter(s[0])
}

func isName(s string) bool {
	if s == "" || len(s) > api.MaxName || !isLetter(s[0]) {
		return false
	}
	return nameLength(s) == len(s)
}

// nameLength returns how many name bytes a text begins with.
func nameLength(text string) int {
	length := 0
	for length < len(text) && isNameByte(text[length]) {
		length++
	}
	return length
}

func isNameByte(b byte) bool {
	return isLetter(b) || isDigit(b) || b == '_' || b == '\''
}

func isLetter(b byte) bool {
	return isSmallLetter(b) || isCapitalLetter(b)
}

func isSmallLetter(b byte) bool {
	return 'a' <= b && b <= 'z'
}

func isCapitalLetter(b byte) bool {
	return 'A' <= b && b <= 'Z'
}

func isDigit(b byte) bool {
	return '0' <= b && b <= '9'
}

func isBlank(b byte) bool {
	return b == ' ' || b == '\t' || b == '\n' || b == '\r'
}
