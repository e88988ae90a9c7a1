// Package stream collects events among which no two texts meet.
package stream

import (
	"strings"

	"scrub/api"
)

// Stream collects the events of one answer. The zero Stream is empty.
type Stream struct {
	events []api.Event
	text   strings.Builder // what was put behind the last event
}

// PutText puts a text, which goes on with the text ahead of it.
func (s *Stream) PutText(text string) {
	s.text.WriteString(text)
}

// Put puts events, the texts among them as PutText does.
func (s *Stream) Put(events ...api.Event) {
	for _, e := range events {
		if e.Kind == api.KindText {
			s.PutText(e.Text)
			continue
		}
		s.endText()
		s.events = append(s.events, e)
	}
}

// Events is all that was put. Nothing is to be put any more behind this.
func (s *Stream) Events() []api.Event {
	s.endText()
	return s.events
}

// endText makes one event of the text behind the last event.
func (s *Stream) endText() {
	if s.text.Len() == 0 {
		return
	}
	s.events = append(s.events, api.Event{Kind: api.KindText, Text: s.text.String()})
	s.text.Reset()
}
