package lexer

import (
	"scrub/api"
	"scrub/ascii"
	"scrub/chars"
	"scrub/vocabulary"
)

// tagEnd stands in the table for the byte that ends the tag. It is the scan of
// a lexer that is within no tag.
const tagEnd = api.ScanNone

// tagStates holds, for each state of a tag from ScanName on, the states behind
// whitespace, a slash, a greater sign, an equals sign, a double quote, a single
// quote and any other byte.
var tagStates = [8][7]uint8{
	{api.ScanGap, api.ScanGap, tagEnd, api.ScanName, api.ScanName, api.ScanName, api.ScanName},
	{api.ScanGap, api.ScanGap, tagEnd, api.ScanAttr, api.ScanAttr, api.ScanAttr, api.ScanAttr},
	{api.ScanAfter, api.ScanGap, tagEnd, api.ScanEq, api.ScanAttr, api.ScanAttr, api.ScanAttr},
	{api.ScanAfter, api.ScanGap, tagEnd, api.ScanEq, api.ScanAttr, api.ScanAttr, api.ScanAttr},
	{api.ScanEq, api.ScanBare, tagEnd, api.ScanBare, api.ScanDouble, api.ScanSingle, api.ScanBare},
	{api.ScanDouble, api.ScanDouble, api.ScanDouble, api.ScanDouble, api.ScanGap, api.ScanDouble, api.ScanDouble},
	{api.ScanSingle, api.ScanSingle, api.ScanSingle, api.ScanSingle, api.ScanSingle, api.ScanGap, api.ScanSingle},
	{api.ScanGap, api.ScanBare, tagEnd, api.ScanBare, api.ScanBare, api.ScanBare, api.ScanBare},
}

// stateBehind is the state of a tag behind one more byte.
func stateBehind(state int, c byte) int {
	return int(tagStates[state-api.ScanName][column(c)])
}

// column is where a byte stands in the rows of tagStates.
func column(c byte) int {
	switch c {
	case '/':
		return 1
	case '>':
		return 2
	case '=':
		return 3
	case '"':
		return 4
	case '\'':
		return 5
	}
	if ascii.IsSpace(c) {
		return 0
	}
	return 6
}

// passTag goes on in a tag from data[at] on, up to its end or to that of data.
func passTag(data string, at, state int) (end, behind int) {
	for at < len(data) && state != tagEnd {
		state = stateBehind(state, data[at])
		at++
	}
	return at, state
}

// skipTag skips the rest of a tag that is too long to be held.
func (r *reader) skipTag() bool {
	r.at, r.scan = passTag(r.data, r.at, r.scan)
	return true
}

// readTag reads the tag at r.at, whose name begins at letter.
func (r *reader) readTag(letter int) bool {
	end, state := passTag(r.data, letter, api.ScanName)
	fits := end-r.at <= r.window
	if fits && state != tagEnd {
		return false
	}
	tag := r.data[letter:end]
	name := tagName(tag)
	isStart := letter == r.at+len("<")
	switch {
	case !fits:
		// The tag is lost, but for what it does to the lexer's state.
	case isStart:
		r.out.Put(api.Event{Kind: api.KindStart, Name: name, Attrs: tagAttrs(tag)})
	default:
		r.out.Put(api.Event{Kind: api.KindEnd, Name: name})
	}
	r.mode, r.eat = api.ModeData, false
	if isStart {
		r.mode, r.eat = modeInside(name), vocabulary.EatsNewline(name)
	}
	r.at, r.scan = end, state
	return true
}

// tagName is the name of a tag that is given from its first letter on.
func tagName(tag string) string {
	end := 0
	for end < len(tag) && stateBehind(api.ScanName, tag[end]) == api.ScanName {
		end++
	}
	return ascii.Lower(tag[:end])
}

// tagAttrs is the attributes of a tag that is given from its first letter to
// its end. Each call makes a list of its own.
func tagAttrs(tag string) []api.Attr {
	var attrs []api.Attr
	state, first := api.ScanName, 0
	for at := range len(tag) {
		next := stateBehind(state, tag[at])
		if next == state {
			continue
		}
		switch state {
		case api.ScanAttr:
			attrs = append(attrs, api.Attr{Name: ascii.Lower(tag[first:at])})
		case api.ScanDouble, api.ScanSingle, api.ScanBare:
			attrs[len(attrs)-1].Value = chars.Unref(tag[first:at], true)
		}
		state, first = next, at
		if next == api.ScanDouble || next == api.ScanSingle {
			first = at + 1
		}
	}
	return attrs
}
