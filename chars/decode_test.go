package chars_test

import (
	"math/rand"
	"strings"
	"testing"
	"unicode/utf8"

	"scrub/api"
	"scrub/chars"
)

const lost = "\xef\xbf\xbd"

// edges holds the bytes at which the rules of 3.1 and of UTF-8 change.
const edges = "\x00\x08\t\n\x0b\f\r\x1f Az~\x7f\x80\x8f\x90\x9f\xa0\xbf\xc0\xc1\xc2\xdf\xe0\xe1\xec\xed\xee\xef\xf0\xf1\xf3\xf4\xf5\xff"

// isGood says 1. of the document by its list.
func isGood(char int) bool {
	for _, one := range []int{0x09, 0x0A, 0x0C} {
		if char == one {
			return true
		}
	}
	for _, span := range [][2]int{{0x20, 0x7E}, {0xA0, 0xD7FF}, {0xE000, 0xFDCF}, {0xFDF0, 0xFFFD}} {
		if span[0] <= char && char <= span[1] {
			return true
		}
	}
	last := char % 0x10000
	return 0x10000 <= char && char <= 0x10FFFF && last != 0xFFFE && last != 0xFFFF
}

// encode writes a character by the bit patterns of UTF-8.
func encode(char int) string {
	low := func(shift int) byte { return byte(0x80 | char>>shift&0x3F) }
	switch {
	case char < 0x80:
		return string([]byte{byte(char)})
	case char < 0x800:
		return string([]byte{byte(0xC0 | char>>6), low(0)})
	case char < 0x10000:
		return string([]byte{byte(0xE0 | char>>12), low(6), low(0)})
	}
	return string([]byte{byte(0xF0 | char>>18), low(12), low(6), low(0)})
}

// encodings holds every character by its encoding, beginnings every proper
// beginning of one.
var encodings, beginnings = func() (map[string]int, map[string]bool) {
	whole, parts := map[string]int{}, map[string]bool{}
	for char := range 0x110000 {
		if 0xD800 <= char && char <= 0xDFFF {
			continue
		}
		code := encode(char)
		whole[code] = char
		for n := 1; n < len(code); n++ {
			parts[code[:n]] = true
		}
	}
	return whole, parts
}()

// modelTake takes the character that s begins with, or one byte as U+FFFD.
func modelTake(s string) (char, size int) {
	for n := 1; n <= min(4, len(s)); n++ {
		if char, ok := encodings[s[:n]]; ok {
			return char, n
		}
	}
	return 0xFFFD, 1
}

// modelPour does what 3.2 says, with a last chunk as Drain does.
func modelPour(st api.Pull, data string, last bool) (api.Pull, string) {
	rest, cr, out := st.Tail+data, st.CR, ""
	for rest != "" && (last || !beginnings[rest]) {
		char, size := modelTake(rest)
		rest = rest[size:]
		switch {
		case char == '\r':
			out += "\n"
		case char == '\n' && cr:
		case isGood(char):
			out += encode(char)
		default:
			out += lost
		}
		cr = char == '\r'
	}
	return api.Pull{Tail: rest, CR: cr}, out
}

// pourAll pours the pieces from the zero state on, and drains.
func pourAll(pieces ...string) string {
	var st api.Pull
	all := ""
	for _, piece := range pieces {
		var out string
		st, out = chars.Pour(st, piece)
		all += out
	}
	return all + chars.Drain(st)
}

// eachString goes through all strings of at most length bytes of the alphabet.
func eachString(alphabet string, length int, do func(string)) {
	do("")
	if length == 0 {
		return
	}
	for i := range len(alphabet) {
		eachString(alphabet, length-1, func(rest string) { do(alphabet[i:i+1] + rest) })
	}
}

func TestNormalOfEveryCharacter(t *testing.T) {
	for char := range 0x110000 {
		if 0xD800 <= char && char <= 0xDFFF {
			continue
		}
		want := lost
		switch {
		case char == '\r':
			want = "\n"
		case isGood(char):
			want = encode(char)
		}
		if got := chars.Normal(encode(char)); got != want {
			t.Fatalf("Normal of U+%04X = %q, want %q", char, got, want)
		}
	}
}

func TestNormal(t *testing.T) {
	for _, c := range []struct{ in, out string }{
		{"", ""},
		{"good \t\f\n text", "good \t\f\n text"},
		{"\r", "\n"},
		{"\r\n", "\n"},
		{"\n\r", "\n\n"},
		{"\r\n\n", "\n\n"},
		{"\r\r\n", "\n\n"},
		{"\r\x00\n", "\n" + lost + "\n"},
		{"\xe2\x82A", lost + lost + "A"},
		{"\xe2\x82\r\n", lost + lost + "\n"},
		{"\xe2\x82\xe2\x82\xac", lost + lost + "\u20ac"},
		{"\xc0\xaf", lost + lost},
		{"\xe0\x9f\xbf", lost + lost + lost},
		{"\xe0\xa0\x80", "\u0800"},
		{"\xed\x9f\xbf", "\ud7ff"},
		{"\xed\xa0\x80", lost + lost + lost},
		{"\xee\x80\x80", "\ue000"},
		{"\xf0\x8f\xbf\xbf", lost + lost + lost + lost},
		{"\xf0\x90\x80\x80", "\U00010000"},
		{"\xf4\x8f\xbf\xbd", "\U0010fffd"},
		{"\xf4\x90\x80\x80", lost + lost + lost + lost},
		{"\xf8\x88\x80\x80\x80", strings.Repeat(lost, 5)},
		{"\xef\xbf\xbd", lost},
		{"\xef\xb7\x8f\xef\xb7\x90\xef\xb7\xaf\xef\xb7\xb0", "\ufdcf" + lost + lost + "\ufdf0"},
		{"\U0001fffd\U0001fffe\U0001ffff\U00020000", "\U0001fffd" + lost + lost + "\U00020000"},
		{"\xef\xbb\xbfx", "\ufeffx"},
	} {
		if got := chars.Normal(c.in); got != c.out {
			t.Errorf("Normal(%q) = %q, want %q", c.in, got, c.out)
		}
	}
}

func TestNormalOfShortStrings(t *testing.T) {
	eachString(edges, 3, func(in string) {
		_, want := modelPour(api.Pull{}, in, true)
		got := chars.Normal(in)
		if got != want {
			t.Fatalf("Normal(%q) = %q, want %q", in, got, want)
		}
		if again := chars.Normal(got); again != got {
			t.Fatalf("Normal(%q) = %q, but it is good", got, again)
		}
	})
}

func TestPourAndDrainAtEveryState(t *testing.T) {
	chunks := []string{"", "\n", "\r", "\r\n", "a", "\x80", "\x82\xac", "\xa0\x80\x80z", "\xbf\xbf\xe2", "\xff\xf0\x9f"}
	eachString(edges, 3, func(tail string) {
		for _, cr := range []bool{false, true} {
			st := api.Pull{Tail: tail, CR: cr}
			_, want := modelPour(st, "", true)
			if got := chars.Drain(st); got != want {
				t.Fatalf("Drain(%#v) = %q, want %q", st, got, want)
			}
			for _, chunk := range chunks {
				wantNext, wantText := modelPour(st, chunk, false)
				next, text := chars.Pour(st, chunk)
				if next != wantNext || text != wantText {
					t.Fatalf("Pour(%#v, %q) = %#v, %q, want %#v, %q", st, chunk, next, text, wantNext, wantText)
				}
			}
		}
	})
}

func TestPourKeepsBeginningsAlone(t *testing.T) {
	for _, c := range []struct{ in, tail string }{
		{"", ""},
		{"a", ""},
		{"\xc1", ""},
		{"\xc2", "\xc2"},
		{"a\xdf", "\xdf"},
		{"\xe0", "\xe0"},
		{"\xe0\x9f", ""},
		{"\xe0\xa0", "\xe0\xa0"},
		{"\xed\x9f", "\xed\x9f"},
		{"\xed\xa0", ""},
		{"\xf0\x8f", ""},
		{"\xf0\x90", "\xf0\x90"},
		{"\xf0\x90\xbf", "\xf0\x90\xbf"},
		{"\xf0\x90\xc0", ""},
		{"\xf0\x90\xc2", "\xc2"},
		{"\xf4\x90", ""},
		{"\xf5", ""},
		{"\xe2\x82\xe2\x82", "\xe2\x82"},
		{"\x80\x80\x80", ""},
		// What can only become a character that is not good is a beginning too.
		{"\xef\xbf", "\xef\xbf"},
		{"\xf4\x8f\xbf", "\xf4\x8f\xbf"},
	} {
		next, text := chars.Pour(api.Pull{}, c.in)
		if next.Tail != c.tail {
			t.Errorf("Pour of %q leaves %q, want %q", c.in, next.Tail, c.tail)
		}
		if want := chars.Normal(c.in[:len(c.in)-len(c.tail)]); text != want {
			t.Errorf("Pour of %q gives %q, want %q", c.in, text, want)
		}
	}
}

func TestPourRemembersCR(t *testing.T) {
	for _, c := range []struct {
		st   api.Pull
		in   string
		cr   bool
		text string
	}{
		{api.Pull{}, "", false, ""},
		{api.Pull{CR: true}, "", true, ""},
		{api.Pull{CR: true}, "\xf0\x9f", true, ""},
		{api.Pull{CR: true, Tail: "\xf0"}, "\x9f", true, ""},
		{api.Pull{CR: true, Tail: "\xf0"}, "\n", false, lost + "\n"},
		{api.Pull{CR: true}, "\n", false, ""},
		{api.Pull{CR: true}, "\n\n", false, "\n"},
		{api.Pull{CR: true}, "\r", true, "\n"},
		{api.Pull{CR: true}, "\r\n", false, "\n"},
		{api.Pull{CR: true}, "\xff\n", false, lost + "\n"},
		{api.Pull{}, "\r\xe2\x82", true, "\n"},
		{api.Pull{}, "\n", false, "\n"},
		{api.Pull{CR: true, Tail: "\n"}, "\n", false, "\n"},
		{api.Pull{Tail: "\r"}, "\n", false, "\n"},
	} {
		next, text := chars.Pour(c.st, c.in)
		if next.CR != c.cr || text != c.text {
			t.Errorf("Pour(%#v, %q) = %#v, %q, want CR %v, %q", c.st, c.in, next, text, c.cr, c.text)
		}
	}
}

func TestEveryWayToCutShortStrings(t *testing.T) {
	eachString("\n\rA\x80\x9f\xac\xc2\xe2\xed\xf0\xff", 4, func(in string) {
		want := chars.Normal(in)
		for cuts := range 1 << max(0, len(in)-1) {
			var pieces []string
			from := 0
			for at := 1; at < len(in); at++ {
				if cuts>>(at-1)&1 == 1 {
					pieces = append(pieces, in[from:at], "")
					from = at
				}
			}
			if got := pourAll(append(pieces, in[from:])...); got != want {
				t.Fatalf("%q in pieces %q gives %q, want %q", in, pieces, got, want)
			}
		}
	})
}

func TestCutsOfLongStrings(t *testing.T) {
	random := rand.New(rand.NewSource(1))
	parts := []string{"a", "\r", "\n", "\r\n", "\u00e9", "\u20ac", "\U0001F600", "\uFDD0", "\x00", "\xe2\x82", "\xf0\x9f\x98", "\x80", "\xff", "\xed\xa0\x80"}
	for range 2000 {
		var b strings.Builder
		for range 1 + random.Intn(20) {
			b.WriteString(parts[random.Intn(len(parts))])
		}
		in := b.String()
		want := chars.Normal(in)
		if !utf8.ValidString(want) || strings.ContainsAny(want, "\r\x00\uFDD0") {
			t.Fatalf("Normal(%q) = %q is not good", in, want)
		}
		var pieces []string
		for from := 0; from < len(in); {
			to := min(len(in), from+random.Intn(4))
			pieces = append(pieces, in[from:to])
			from = to
		}
		if got := pourAll(pieces...); got != want {
			t.Fatalf("%q in pieces %q gives %q, want %q", in, pieces, got, want)
		}
	}
}
