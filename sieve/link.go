package sieve

import (
	"slices"
	"strings"

	"scrub/ascii"
)

// CleanURL strips a link and tells whether it may stay.
func CleanURL(schemes []string, value string) (string, bool) {
	link := stripLink(value)
	if scheme, found := schemeOf(link); found && !slices.Contains(schemes, scheme) {
		return "", false
	}
	return link, true
}

// stripLink takes away what a browser does not see in a link.
func stripLink(value string) string {
	var seen strings.Builder
	for i := range len(value) {
		if c := value[i]; c >= ' ' && c != 0x7F {
			seen.WriteByte(c)
		}
	}
	return strings.Trim(seen.String(), " ")
}

// schemeOf is the scheme of a link in lower case. None is found in one that is relative.
func schemeOf(link string) (scheme string, found bool) {
	end := strings.IndexAny(link, ":/?#")
	if end < 0 || link[end] != ':' {
		return "", false
	}
	return ascii.Lower(link[:end]), true
}
