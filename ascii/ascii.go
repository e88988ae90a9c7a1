// Package ascii knows the kinds of bytes and the words that the other packages
// speak of.
package ascii

import "strings"

// IsSpace tells whether c is whitespace.
func IsSpace(c byte) bool {
	switch c {
	case '\t', '\n', '\f', '\r', ' ':
		return true
	}
	return false
}

// IsLetter tells whether c is a letter of either case.
func IsLetter(c byte) bool {
	return 'a' <= LowerByte(c) && LowerByte(c) <= 'z'
}

// IsDigit tells whether c is a decimal digit.
func IsDigit(c byte) bool {
	return '0' <= c && c <= '9'
}

// WordLength is the length of the word that text begins with: a small letter and
// then small letters, digits and signs, as many as there are.
func WordLength(text, signs string) int {
	for at := range len(text) {
		c := text[at]
		if 'a' <= c && c <= 'z' {
			continue
		}
		if at == 0 || !IsDigit(c) && strings.IndexByte(signs, c) < 0 {
			return at
		}
	}
	return len(text)
}

// LowerByte puts one byte in lower case.
func LowerByte(c byte) byte {
	if 'A' <= c && c <= 'Z' {
		return c + ('a' - 'A')
	}
	return c
}

// Lower puts a string in lower case, byte by byte: strings.ToLower would
// also change letters beyond ASCII and bytes that are no character.
func Lower(s string) string {
	lowered := []byte(s)
	for i, c := range lowered {
		lowered[i] = LowerByte(c)
	}
	return string(lowered)
}
