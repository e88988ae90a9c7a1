package sanitize

import (
	"scrub/api"
	"scrub/chars"
)

// source is the reading side. It makes the reads of a script and decodes them.
type source struct {
	script []api.Read
	pieces chan string   // the text, closed behind its last piece
	done   chan struct{} // closed by the caller's side if it wants no more
	failed int           // the failed read's error; it stands once pieces is closed
}

func newSource(script []api.Read) *source {
	return &source{script: script, pieces: make(chan string), done: make(chan struct{})}
}

// read makes the reads, up to one that fails, and sends what they give.
func (s *source) read() {
	defer close(s.pieces)
	var st api.Pull
	for _, one := range s.script {
		var text string
		st, text = chars.Pour(st, one.Data)
		if !s.send(text) {
			return
		}
		if one.Err != 0 {
			s.failed = one.Err
			return
		}
	}
	s.send(chars.Drain(st))
}

// send sends a piece of text. It answers false if nobody wants it.
func (s *source) send(text string) bool {
	select {
	case s.pieces <- text:
		return true
	case <-s.done:
		return false
	}
}
