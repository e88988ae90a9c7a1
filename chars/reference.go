package chars

import (
	"strings"
	"unicode/utf8"

	"scrub/api"
	"scrub/ascii"
)

// reference is a name and the character that it stands for.
type reference struct {
	name string
	char rune
}

// names holds the reference names. A name that is written here with its
// semicolon is known only with it; any other is known with and without one.
var names = [39]reference{
	{"AMP", 0x26}, {"amp", 0x26}, {"copy", 0xA9}, {"deg", 0xB0}, {"GT", 0x3E},
	{"gt", 0x3E}, {"LT", 0x3C}, {"lt", 0x3C}, {"nbsp", 0xA0}, {"not", 0xAC},
	{"para", 0xB6}, {"QUOT", 0x22}, {"quot", 0x22}, {"reg", 0xAE}, {"times", 0xD7},
	{"apos;", 0x27}, {"bull;", 0x2022}, {"colon;", 0x3A}, {"copysr;", 0x2117},
	{"euro;", 0x20AC}, {"gtdot;", 0x22D7}, {"hellip;", 0x2026}, {"ldquo;", 0x201C},
	{"lpar;", 0x28}, {"lsquo;", 0x2018}, {"ltimes;", 0x22C9}, {"mdash;", 0x2014},
	{"ndash;", 0x2013}, {"NewLine;", 0x0A}, {"notin;", 0x2209}, {"num;", 0x23},
	{"parallel;", 0x2225}, {"rdquo;", 0x201D}, {"rpar;", 0x29}, {"rsquo;", 0x2019},
	{"sol;", 0x2F}, {"Tab;", 0x09}, {"timesb;", 0x22A0}, {"trade;", 0x2122},
}

// The numbers that stand for another character than their own.
const (
	firstReplaced = 128
	lastReplaced  = 159
)

// replaced holds the characters that the numbers from firstReplaced on stand for.
var replaced = [lastReplaced - firstReplaced + 1]rune{
	0x20AC, 0xFFFD, 0x201A, 0x0192, 0x201E, 0x2026, 0x2020, 0x2021,
	0x02C6, 0x2030, 0x0160, 0x2039, 0x0152, 0xFFFD, 0x017D, 0xFFFD,
	0xFFFD, 0x2018, 0x2019, 0x201C, 0x201D, 0x2022, 0x2013, 0x2014,
	0x02DC, 0x2122, 0x0161, 0x203A, 0x0153, 0xFFFD, 0x017E, 0x0178,
}

// Unref decodes the character references of a text or of an attribute's value.
func Unref(s string, attr bool) string {
	var text strings.Builder
	for {
		ahead, behind, found := strings.Cut(s, "&")
		text.WriteString(ahead)
		if !found {
			return text.String()
		}
		length, char := findReference(behind, attr)
		if length == 0 {
			text.WriteByte('&')
		} else {
			text.WriteRune(char)
		}
		s = behind[length:]
	}
}

// findReference looks for a reference at the beginning of the bytes behind an &.
// Its length is 0 if there is none.
func findReference(behind string, attr bool) (length int, char rune) {
	if strings.HasPrefix(behind, "#") {
		return findNumber(behind[:min(len(behind), api.MaxRef-1)])
	}
	length, char = findName(behind)
	if attr && length > 0 && behind[length-1] != ';' && goesOn(behind[length:]) {
		return 0, 0
	}
	return length, char
}

// goesOn tells whether bytes behind a name make it part of a longer word or the
// name of a parameter, as in a link's query: there it was not meant as a reference.
func goesOn(behind string) bool {
	if behind == "" {
		return false
	}
	next := behind[0]
	return next == '=' || ascii.IsLetter(next) || ascii.IsDigit(next)
}

// findName looks for the longest name that behind begins with.
func findName(behind string) (length int, char rune) {
	for _, known := range names {
		if len(known.name) > length && strings.HasPrefix(behind, known.name) {
			length, char = len(known.name), known.char
		}
	}
	if length > 0 && behind[length-1] != ';' && strings.HasPrefix(behind[length:], ";") {
		length++
	}
	return length, char
}

// findNumber looks for a numeric reference in near, which begins with a #.
func findNumber(near string) (length int, char rune) {
	first, base := 1, 10
	if len(near) > 1 && ascii.LowerByte(near[1]) == 'x' {
		first, base = 2, 16
	}
	end, number := first, 0
	for end < len(near) && digitValue(near[end]) < base {
		// Held down, since digits enough would make the number run over.
		number = min(number*base+digitValue(near[end]), utf8.MaxRune+1)
		end++
	}
	if end == first {
		return 0, 0
	}
	if end < len(near) && near[end] == ';' {
		end++
	}
	return end, numbered(rune(number))
}

// digitValue is the value of a digit; of any other byte it is no base's.
func digitValue(c byte) int {
	switch low := ascii.LowerByte(c); {
	case ascii.IsDigit(c):
		return int(c - '0')
	case 'a' <= low && low <= 'f':
		return int(low-'a') + 10
	}
	return 16
}

// numbered is the character that a numeric reference stands for.
func numbered(number rune) rune {
	switch {
	case firstReplaced <= number && number <= lastReplaced:
		return replaced[number-firstReplaced]
	case isGood(number):
		return number
	}
	return utf8.RuneError
}
