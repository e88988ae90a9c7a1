// Package ascii knows the kinds of bytes that the other packages speak of.
package ascii

// IsSpace tells whether c is whitespace.
func IsSpace(c byte) bool {
	switch c {
	case '\t', '\n', '\f', '\r', ' ':
		return true
	}
	return false
}

// IsLetter tells whether c is a letter of either case.
func IsLetter(c byte) bool {
	return 'a' <= LowerByte(c) && LowerByte(c) <= 'z'
}

// IsDigit tells whether c is a decimal digit.
func IsDigit(c byte) bool {
	return '0' <= c && c <= '9'
}

// LowerByte puts one byte in lower case.
func LowerByte(c byte) byte {
	if 'A' <= c && c <= 'Z' {
		return c + ('a' - 'A')
	}
	return c
}

// Lower puts a string in lower case, byte by byte: strings.ToLower would
// also change letters beyond ASCII and bytes that are no character.
func Lower(s string) string {
	lowered := []byte(s)
	for i, c := range lowered {
		lowered[i] = LowerByte(c)
	}
	return string(lowered)
}
