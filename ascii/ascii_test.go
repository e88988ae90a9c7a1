package ascii_test

import (
	"strings"
	"testing"

	"scrub/ascii"
)

func TestKindsOfBytes(t *testing.T) {
	const (
		capitals = "ABCDEFGHIJKLMNOPQRSTUVWXYZ"
		smalls   = "abcdefghijklmnopqrstuvwxyz"
		digits   = "0123456789"
		spaces   = "\x09\x0a\x0c\x0d\x20"
	)
	for i := range 256 {
		c := byte(i)
		if got, want := ascii.IsSpace(c), strings.IndexByte(spaces, c) >= 0; got != want {
			t.Errorf("IsSpace(%#x) = %v", c, got)
		}
		if got, want := ascii.IsLetter(c), strings.IndexByte(capitals+smalls, c) >= 0; got != want {
			t.Errorf("IsLetter(%#x) = %v", c, got)
		}
		if got, want := ascii.IsDigit(c), strings.IndexByte(digits, c) >= 0; got != want {
			t.Errorf("IsDigit(%#x) = %v", c, got)
		}
		want := c
		if at := strings.IndexByte(capitals, c); at >= 0 {
			want = smalls[at]
		}
		if got := ascii.LowerByte(c); got != want {
			t.Errorf("LowerByte(%#x) = %#x, want %#x", c, got, want)
		}
		if got := ascii.Lower("Q" + string([]byte{c}) + "q"); got != "q"+string([]byte{want})+"q" {
			t.Errorf("Lower around %#x gives %q", c, got)
		}
	}
}

func TestLowerLeavesOtherBytes(t *testing.T) {
	for in, want := range map[string]string{
		"":             "",
		"TextArea-1":   "textarea-1",
		"\u212AÄ\xffK": "\u212AÄ\xffk",
	} {
		if got := ascii.Lower(in); got != want {
			t.Errorf("Lower(%q) = %q, want %q", in, got, want)
		}
	}
}

func TestWordLength(t *testing.T) {
	for _, c := range []struct {
		text, signs string
		length      int
	}{
		{"", "-", 0}, {"a", "", 1}, {"z9", "", 2}, {"a>b", "", 1}, {"a-b c", "-", 3}, {"a-b", "", 1}, {"a-+.b", "+-.", 5}, {"a-+.b", "-.", 2},
		{"1a", "", 0}, {"-a", "-", 0}, {"Aa", "", 0}, {"aA", "", 1}, {" a", "", 0}, {"h1h", "", 3}, {"\xffa", "", 0}, {"a\xff", "\xfe", 1},
		{"a`", "", 1}, {"a{", "", 1}, {"`", "", 0}, {"{", "", 0}, {"a/", "", 1}, {"a:", "", 1}, {"a\u00e9", "", 1}, {"a\x00", "", 1},
	} {
		if got := ascii.WordLength(c.text, c.signs); got != c.length {
			t.Errorf("WordLength(%q, %q) = %d, want %d", c.text, c.signs, got, c.length)
		}
	}
}
