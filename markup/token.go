package markup

import (
	"slices"
	"strings"

	"scrub/api"
	"scrub/ascii"
	"scrub/chars"
)

// reference is a character reference and the character that it stands for.
type reference struct {
	written string
	char    rune
}

// references holds the references that canonical markup has.
var references = [5]reference{
	{"&amp;", '&'}, {"&lt;", '<'}, {"&gt;", '>'}, {"&quot;", '"'}, {"&nbsp;", 0xA0},
}

// cutToken cuts the first token off a text that is not empty. The verdict is on
// the token's form alone.
func cutToken(text string) (token api.Event, behind string, verdict int) {
	r := tokenReader{rest: text}
	switch {
	case r.skip("</"):
		token = api.Event{Kind: api.KindEnd, Name: r.word("")}
		r.need(">")
	case r.skip("<"):
		token = r.startTag()
	default:
		token = api.Event{Kind: api.KindText, Text: r.text()}
	}
	switch {
	case r.wrong:
		verdict = api.RejectToken
	case hasTwice(token.Attrs):
		verdict = api.RejectTwice
	}
	return token, r.rest, verdict
}

// tokenReader reads the parts of a token from the beginning of rest on.
type tokenReader struct {
	rest  string
	wrong bool // a part was not there or not as it has to be
}

// skip passes sign if it is the next thing.
func (r *tokenReader) skip(sign string) bool {
	rest, found := strings.CutPrefix(r.rest, sign)
	r.rest = rest
	return found
}

// need passes sign, which has to be the next thing.
func (r *tokenReader) need(sign string) {
	if !r.skip(sign) {
		r.wrong = true
	}
}

// startTag reads a start tag behind its first sign.
func (r *tokenReader) startTag() api.Event {
	tag := api.Event{Kind: api.KindStart, Name: r.word("")}
	for !r.wrong && r.skip(" ") {
		name := r.word("-")
		r.need(`="`)
		value := r.value()
		tag.Attrs = append(tag.Attrs, api.Attr{Name: name, Value: value})
	}
	r.need(">")
	return tag
}

// word reads the name of a tag or of an attribute.
func (r *tokenReader) word(signs string) string {
	length := ascii.WordLength(r.rest, signs)
	if length == 0 {
		r.wrong = true
	}
	// The clone keeps a short name from holding the whole text in memory.
	word := strings.Clone(r.rest[:length])
	r.rest = r.rest[length:]
	return word
}

// value reads an attribute's value and the quote behind it.
func (r *tokenReader) value() string {
	// Without a quote nothing is left, and it is the tag's end that is not there.
	raw, behind, _ := strings.Cut(r.rest, `"`)
	r.rest = behind
	return r.decode(raw)
}

// text reads a text up to the next tag.
func (r *tokenReader) text() string {
	raw, _, _ := strings.Cut(r.rest, "<")
	r.rest = r.rest[len(raw):]
	return r.decode(raw)
}

// decode reads the units of a text or a value.
func (r *tokenReader) decode(raw string) string {
	// Normal leaves what is good as it is, and nothing else.
	if r.wrong || chars.Normal(raw) != raw {
		r.wrong = true
		return ""
	}
	var decoded strings.Builder
	behind := 0 // a reference has been read up to here
	for at, char := range raw {
		if at < behind {
			continue
		}
		if char == '&' {
			known := findReference(raw[at:])
			if known.written == "" {
				r.wrong = true
				return ""
			}
			char, behind = known.char, at+len(known.written)
		}
		decoded.WriteRune(char)
	}
	return decoded.String()
}

// findReference looks for a reference at the beginning of raw. If there is none,
// it answers the zero reference.
func findReference(raw string) reference {
	for _, known := range references {
		if strings.HasPrefix(raw, known.written) {
			return known
		}
	}
	return reference{}
}

// hasTwice tells whether two attributes have the same name. It sorts, since a
// tag can have any number of them.
func hasTwice(attrs []api.Attr) bool {
	var names []string
	for _, attr := range attrs {
		names = append(names, attr.Name)
	}
	slices.Sort(names)
	return len(slices.Compact(names)) < len(attrs)
}
