package policy

import (
	"strings"

	"scrub/ascii"
)

// stripLink takes away what a browser does not see in a link.
func stripLink(value string) string {
	var seen strings.Builder
	for i := range len(value) {
		if c := value[i]; c >= ' ' && c != 0x7F {
			seen.WriteByte(c)
		}
	}
	return strings.Trim(seen.String(), " ")
}

// schemeOf is the scheme of a link in lower case. None is found in one that is relative.
func schemeOf(link string) (scheme string, found bool) {
	end := strings.IndexAny(link, ":/?#")
	if end < 0 || link[end] != ':' {
		return "", false
	}
	return ascii.Lower(link[:end]), true
}
