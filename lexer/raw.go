package lexer

import (
	"scrub/api"
	"scrub/ascii"
)

// rawName is the name of the element that a mode other than data is inside of.
func rawName(mode int) string {
	switch mode {
	case api.ModeTextarea:
		return "textarea"
	case api.ModeScript:
		return "script"
	case api.ModeStyle:
		return "style"
	case api.ModeXmp:
		return "xmp"
	case api.ModeIframe:
		return "iframe"
	case api.ModeNoembed:
		return "noembed"
	case api.ModeNoframes:
		return "noframes"
	case api.ModeNoscript:
		return "noscript"
	case api.ModeTitle:
		return "title"
	}
	return "plaintext"
}

// modeInside is the mode behind the start tag of an element.
func modeInside(name string) int {
	for mode := api.ModeTextarea; mode <= api.ModePlain; mode++ {
		if name == rawName(mode) {
			return mode
		}
	}
	return api.ModeData
}

// What the bytes at a < are to the end tag of the element that the mode is inside of.
const (
	another    = iota // something else
	unfinished        // its beginning, but not known to be it yet
	finished          // its beginning
)

// ownEnd looks for the end tag of the mode's own element at r.at.
func (r *reader) ownEnd() int {
	opening := "</" + rawName(r.mode)
	rest := r.data[r.at:]
	same := 0
	for same < min(len(rest), len(opening)) && ascii.LowerByte(rest[same]) == opening[same] {
		same++
	}
	switch {
	case same == len(rest):
		return unfinished
	case same == len(opening) && endsName(rest[same]):
		return finished
	}
	return another
}

// endsName tells whether a tag's name ends ahead of c.
func endsName(c byte) bool {
	return ascii.IsSpace(c) || c == '/' || c == '>'
}
