// Package written knows how a tag looks in canonical markup, for the packages
// that write tags and for those that measure them.
package written

import (
	"strings"

	"scrub/api"
)

// StartTag writes a start tag. Names are written as they are, whatever they hold.
func StartTag(name string, attrs []api.Attr) string {
	var tag strings.Builder
	tag.WriteString("<" + name)
	for _, attr := range attrs {
		tag.WriteString(" " + attr.Name + `="` + escapeValue(attr.Value) + `"`)
	}
	tag.WriteString(">")
	return tag.String()
}

// escapeValue writes an attribute's value.
func escapeValue(value string) string {
	// The & is first, since the other signs give one.
	value = strings.ReplaceAll(value, "&", "&amp;")
	value = strings.ReplaceAll(value, "<", "&lt;")
	value = strings.ReplaceAll(value, ">", "&gt;")
	value = strings.ReplaceAll(value, "\u00a0", "&nbsp;")
	return strings.ReplaceAll(value, `"`, "&quot;")
}
