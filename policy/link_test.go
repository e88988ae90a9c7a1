package policy_test

import (
	"slices"
	"strings"
	"testing"

	"scrub/policy"
)

var schemes = []string{"http", "mailto", "a+b-c.9"}

// checkLink looks at one answer, and at what is answered to that.
func checkLink(t *testing.T, list []string, value, want string, stays bool) {
	t.Helper()
	got, ok := policy.CleanURL(list, value)
	if got != want || ok != stays {
		t.Errorf("CleanURL(%q, %q) = %q, %v, want %q, %v", list, value, got, ok, want, stays)
	}
	if again, okAgain := policy.CleanURL(list, got); ok && (again != got || !okAgain) {
		t.Errorf("CleanURL(%q, %q) = %q, %v, but it is stripped", list, got, again, okAgain)
	}
}

func TestCleanURL(t *testing.T) {
	for _, c := range []struct {
		in, out string
		stays   bool
	}{
		{"", "", true},
		{" ", "", true},
		{"\x00\x1f \x7f", "", true},
		{"x", "x", true},
		{"x y  z", "x y  z", true},
		{"/", "/", true},
		{"//host:80/", "//host:80/", true},
		{"?x:y", "?x:y", true},
		{"#x:y", "#x:y", true},
		{"x/javascript:y", "x/javascript:y", true},
		{"javascript/:y", "javascript/:y", true},
		{"javascript?:y", "javascript?:y", true},
		{"javascript#:y", "javascript#:y", true},
		{"javascript\\:y", "", false},
		{"javascript", "javascript", true},
		{"javascript:", "", false},
		{"http:", "http:", true},
		{"http:javascript:x", "http:javascript:x", true},
		{"HTTP://X", "HTTP://X", true},
		{"hTtP:x", "hTtP:x", true},
		{"MailTo:Me", "MailTo:Me", true},
		{"A+B-c.9:", "A+B-c.9:", true},
		{"a+b-c:", "", false},
		{"https:x", "", false},
		{"htt:x", "", false},
		{"http :x", "", false},
		{"ht tp:x", "", false},
		{" http:x ", "http:x", true},
		{"\t http:x \n", "http:x", true},
		{" \x01 http:x \x01 ", "http:x", true},
		{"ht\r\ntp\t:\x00x\x7fy", "http:xy", true},
		{"x \x00", "x", true},
		{"java\nscript\t:x", "", false},
		{"\x01javascript:x", "", false},
		{":", "", false},
		{" : ", "", false},
		{":http", "", false},
		{"\u00a0http:x", "", false},
		{"http\u2028:x", "", false},
		{"http&colon;x", "http&colon;x", true},
		{"http%3Ax", "http%3Ax", true},
		{"\xff:x", "", false},
		{"\xff\x80 \xe2", "\xff\x80 \xe2", true},
		{"\u212attp:x", "", false},
	} {
		checkLink(t, schemes, c.in, c.out, c.stays)
	}
}

// Each byte is put in each place of a link that may stay.
func TestEveryByteInALink(t *testing.T) {
	for i := range 256 {
		c := string([]byte{byte(i)})
		for at := 0; at <= len("http:x"); at++ {
			value := "http:x"[:at] + c + "http:x"[at:]
			want, stays := value, at > len("http")
			switch {
			case i < 0x20 || i == 0x7f, i == ' ' && (at == 0 || at == len("http:x")):
				want, stays = "http:x", true
			case strings.Contains("/?#", c), i == ':' && at == len("http"):
				stays = true
			}
			if !stays {
				want = ""
			}
			checkLink(t, schemes, value, want, stays)
		}
	}
}

func TestAnySchemes(t *testing.T) {
	for _, c := range []struct {
		list  []string
		in    string
		stays bool
	}{
		{nil, "http:x", false},
		{nil, "x", true},
		{[]string{}, ":", false},
		{[]string{""}, ":x", true},
		{[]string{""}, "a:x", false},
		{[]string{"HTTP"}, "HTTP:x", false},
		{[]string{"HTTP"}, "http:x", false},
		{[]string{"javascript"}, "JavaScript:x", true},
		{[]string{"a b"}, "A B:x", true},
		{[]string{"é"}, "é:x", true},
		{[]string{"é"}, "É:x", false},
		{[]string{"\xff"}, "\xff:x", true},
		{[]string{"x", "x", "y"}, "y:x", true},
		{[]string{"a:"}, "a::x", false},
	} {
		want := ""
		if c.stays {
			want = c.in
		}
		checkLink(t, c.list, c.in, want, c.stays)
	}
}

// modelURL does what 5.2 says.
func modelURL(list []string, value string) (string, bool) {
	pairs := []string{"\x7f", ""}
	for c := range 0x20 {
		pairs = append(pairs, string(rune(c)), "")
	}
	link := strings.NewReplacer(pairs...).Replace(value)
	for strings.HasPrefix(link, " ") {
		link = link[1:]
	}
	for strings.HasSuffix(link, " ") {
		link = link[:len(link)-1]
	}
	scheme, _, found := strings.Cut(link, ":")
	if !found || strings.ContainsAny(scheme, "/?#") {
		return link, true
	}
	for from := 'A'; from <= 'Z'; from++ {
		scheme = strings.ReplaceAll(scheme, string(from), string(from+'a'-'A'))
	}
	if slices.Contains(list, scheme) {
		return link, true
	}
	return "", false
}

func TestShortLinksAgainstModel(t *testing.T) {
	lists := [][]string{nil, {"a", "zz", ""}, {"A", "a a", "\x80"}}
	var each func(value string, left int)
	each = func(value string, left int) {
		for _, list := range lists {
			want, stays := modelURL(list, value)
			checkLink(t, list, value, want, stays)
		}
		if left == 0 || t.Failed() {
			return
		}
		for _, c := range []string{" ", "\x00", "\t", "\x1f", "\x7f", ":", "/", "?", "#", "a", "A", "z", "Z", "\x80"} {
			each(value+c, left-1)
		}
	}
	each("", 4)
}
