// Package written knows how tags and texts look in canonical markup, for the
// packages that write them and for those that measure them.
package written

import (
	"strings"

	"scrub/api"
)

// StartTag writes a start tag. Names are written as they are, whatever they hold.
func StartTag(name string, attrs []api.Attr) string {
	var tag strings.Builder
	tag.WriteString("<" + name)
	for _, attr := range attrs {
		value := strings.ReplaceAll(Text(attr.Value), `"`, "&quot;")
		tag.WriteString(" " + attr.Name + `="` + value + `"`)
	}
	tag.WriteString(">")
	return tag.String()
}

// EndTag writes an end tag.
func EndTag(name string) string {
	return "</" + name + ">"
}

// Text writes a text.
func Text(text string) string {
	// The & is first, since the other signs give one.
	text = strings.ReplaceAll(text, "&", "&amp;")
	text = strings.ReplaceAll(text, "<", "&lt;")
	text = strings.ReplaceAll(text, ">", "&gt;")
	return strings.ReplaceAll(text, "\u00a0", "&nbsp;")
}
