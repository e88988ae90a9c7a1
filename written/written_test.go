package written_test

import (
	"strings"
	"testing"

	"scrub/api"
	"scrub/chars"
	"scrub/written"
)

func TestStartTag(t *testing.T) {
	for _, c := range []struct {
		name  string
		attrs []api.Attr
		tag   string
	}{
		{"b", nil, "<b>"},
		{"br", []api.Attr{}, "<br>"},
		{"", nil, "<>"},
		{"a", []api.Attr{{Name: "href", Value: "u"}, {Name: "title"}}, `<a href="u" title="">`},
		{"A<&", []api.Attr{{Name: "x\"&", Value: "v"}, {Value: "w"}}, `<A<& x"&="v" ="w">`},
	} {
		if got := written.StartTag(c.name, c.attrs); got != c.tag {
			t.Errorf("StartTag(%q, %q) = %s, want %s", c.name, c.attrs, got, c.tag)
		}
	}
}

func TestEndTag(t *testing.T) {
	for name, want := range map[string]string{"": "</>", "b": "</b>", "br": "</br>", "A<&": "</A<&>"} {
		if got := written.EndTag(name); got != want {
			t.Errorf("EndTag(%q) = %s, want %s", name, got, want)
		}
	}
}

func TestTextsAndValuesAreEscaped(t *testing.T) {
	for value, want := range map[string]string{
		"":                           "",
		"&":                          "&amp;",
		"<":                          "&lt;",
		">":                          "&gt;",
		"\"":                         "&quot;",
		"'":                          "'",
		"\u00a0":                     "&nbsp;",
		"\xc2\xa0\xa0":               "&nbsp;\xa0",
		"\xc2\xc2\xa0":               "\xc2&nbsp;",
		"\xe1\xc2\xa0":               "\xe1&nbsp;",
		"\xc2":                       "\xc2",
		"\xa0\xc2":                   "\xa0\xc2",
		"&amp;&nbsp;":                "&amp;amp;&amp;nbsp;",
		"a\x00\x7f\xff\u20ac \t\n/=": "a\x00\x7f\xff\u20ac \t\n/=",
		"\"<&>\"":                    "&quot;&lt;&amp;&gt;&quot;",
	} {
		attrs := []api.Attr{{Name: "k", Value: value}}
		if got := written.StartTag("b", attrs); got != "<b k=\""+want+"\">" {
			t.Errorf("%q is written as %s", value, got)
		}
		if got := chars.Unref(want, true); got != value {
			t.Errorf("%q is read back as %q", want, got)
		}
		// In a text the quote stands as it is.
		want = strings.ReplaceAll(want, "&quot;", `"`)
		if got := written.Text(value); got != want {
			t.Errorf("the text %q is written as %s", value, got)
		}
		if got := chars.Unref(want, false); got != value {
			t.Errorf("the text %q is read back as %q", want, got)
		}
	}
}
