package lexer

import (
	"strings"

	"scrub/api"
	"scrub/ascii"
	"scrub/chars"
	"scrub/stream"
)

// reader goes through the bytes of one call.
type reader struct {
	window int
	data   string
	at     int // data is told up to here
	mode   int
	scan   int
	eat    bool
	out    stream.Stream
}

func newReader(window int, st api.Lexer, text string) *reader {
	return &reader{window: window, data: st.Held + text, mode: st.Mode, scan: st.Scan, eat: st.Eat}
}

// state is what the next call has to know.
func (r *reader) state() api.Lexer {
	// The clone keeps a few held bytes from holding the whole piece in memory.
	held := strings.Clone(r.data[r.at:])
	return api.Lexer{Mode: r.mode, Scan: r.scan, Eat: r.eat, Held: held}
}

// read reads on until all is told or it needs more bytes to tell.
func (r *reader) read() {
	for r.at < len(r.data) && r.step() {
	}
}

// step reads the next thing. It answers false if that needs more bytes.
func (r *reader) step() bool {
	switch {
	case r.scan == api.ScanComment:
		return r.skipComment()
	case r.scan == api.ScanBogus:
		return r.skipBogus()
	case r.scan != api.ScanNone:
		return r.skipTag()
	case r.mode == api.ModeData:
		return r.readData()
	case r.mode == api.ModeTextarea:
		return r.readTextarea()
	}
	return r.skipRaw()
}

// end tells what is held at the end of the text.
func (r *reader) end() {
	if r.at == len(r.data) || r.scan != api.ScanNone {
		return
	}
	held := r.data[r.at:]
	switch {
	case held[0] == '&':
		r.unit(chars.Unref(held, false))
	case r.mode == api.ModeData && (held == "<" || held == "</"),
		r.mode == api.ModeTextarea && r.ownEnd() == unfinished:
		for r.at < len(r.data) {
			r.readByte()
		}
	}
}

// readData reads the next thing of mode 0.
func (r *reader) readData() bool {
	switch r.data[r.at] {
	case '<':
		return r.readMarkup()
	case '&':
		return r.readReference()
	}
	r.readByte()
	return true
}

// readMarkup reads what begins with a < in mode 0.
func (r *reader) readMarkup() bool {
	rest := r.data[r.at:]
	switch {
	case rest == "<", rest == "</", rest == "<!", rest == "<!-":
		return false
	case ascii.IsLetter(rest[1]):
		return r.readTag(r.at + 1)
	case rest[1] == '/' && ascii.IsLetter(rest[2]):
		return r.readTag(r.at + 2)
	case strings.HasPrefix(rest, "<!--"):
		r.beginSkip(api.ScanComment)
	case rest[1] == '!', rest[1] == '?', rest[1] == '/':
		r.beginSkip(api.ScanBogus)
	default:
		r.readByte()
	}
	return true
}

// beginSkip begins a comment or bogus markup. Only two bytes are passed, since
// the dashes of <!-- and the third byte of bogus markup can be part of the end.
func (r *reader) beginSkip(scan int) {
	r.at += 2
	r.scan = scan
	r.eat = false
}

func (r *reader) skipComment() bool {
	const ending = "-->"
	rest := r.data[r.at:]
	if found := strings.Index(rest, ending); found >= 0 {
		r.at += found + len(ending)
		r.scan = api.ScanNone
		return true
	}
	r.at = len(r.data)
	for dashes := 2; dashes > 0; dashes-- {
		if strings.HasSuffix(rest, ending[:dashes]) {
			r.at -= dashes
			break
		}
	}
	return false
}

func (r *reader) skipBogus() bool {
	found := strings.IndexByte(r.data[r.at:], '>')
	if found < 0 {
		r.at = len(r.data)
		return false
	}
	r.at += found + 1
	r.scan = api.ScanNone
	return true
}

// readTextarea reads the next thing of mode 1.
func (r *reader) readTextarea() bool {
	switch r.data[r.at] {
	case '<':
		switch r.ownEnd() {
		case unfinished:
			return false
		case finished:
			return r.readTag(r.at + len("</"))
		}
	case '&':
		return r.readReference()
	}
	r.readByte()
	return true
}

// skipRaw skips to the next < of the modes 2 to 9 and looks at it. In mode 10,
// which nothing ends, it skips all.
func (r *reader) skipRaw() bool {
	found := strings.IndexByte(r.data[r.at:], '<')
	if found < 0 || r.mode == api.ModePlain {
		r.at = len(r.data)
		return true
	}
	r.at += found
	switch r.ownEnd() {
	case unfinished:
		return false
	case finished:
		return r.readTag(r.at + len("</"))
	}
	r.at++
	return true
}

// readReference reads a reference run.
func (r *reader) readReference() bool {
	limit := r.at + api.MaxRef
	end := r.at + 1
	if end < len(r.data) && r.data[end] == '#' {
		end++
	}
	for end < min(len(r.data), limit) && (ascii.IsLetter(r.data[end]) || ascii.IsDigit(r.data[end])) {
		end++
	}
	if end < limit {
		if end == len(r.data) {
			return false
		}
		if r.data[end] == ';' {
			end++
		}
	}
	r.unit(chars.Unref(r.data[r.at:end], false))
	r.at = end
	return true
}

// readByte reads one byte that is a text unit.
func (r *reader) readByte() {
	r.unit(r.data[r.at : r.at+1])
	r.at++
}

// unit puts out a text unit, if it is not a newline to be eaten.
func (r *reader) unit(text string) {
	if !r.eat || text != "\n" {
		r.out.PutText(text)
	}
	r.eat = false
}
