package chars

import (
	"strings"
	"unicode/utf8"

	"scrub/api"
)

// decode reads bytes as clean text. cr tells whether a CR stood ahead of them;
// if more bytes are to come, a character that they may complete is left over.
func decode(data string, cr, more bool) (api.Pull, string) {
	var text strings.Builder
	for at, char := range data {
		if more && char == utf8.RuneError && !utf8.FullRuneInString(data[at:]) {
			// The clone keeps a few left bytes from holding the whole chunk in memory.
			return api.Pull{Tail: strings.Clone(data[at:]), CR: cr}, text.String()
		}
		switch {
		case char == '\r':
			text.WriteByte('\n')
		case char == '\n' && cr:
			// The CR ahead of it has given the line end already.
		case isGood(char):
			text.WriteRune(char)
		default:
			text.WriteRune(utf8.RuneError)
		}
		cr = char == '\r'
	}
	return api.Pull{CR: cr}, text.String()
}

// isGood tells whether char may stand in clean text.
func isGood(char rune) bool {
	switch {
	case char < 0x20:
		return char == '\t' || char == '\n' || char == '\f'
	case 0x7F <= char && char <= 0x9F:
		return false
	case 0xD800 <= char && char <= 0xDFFF:
		return false
	case 0xFDD0 <= char && char <= 0xFDEF:
		return false
	}
	return char <= utf8.MaxRune && char&0xFFFE != 0xFFFE
}
