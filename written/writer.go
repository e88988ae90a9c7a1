package written

import (
	"scrub/api"
	"scrub/vocabulary"
)

// Writer writes a stream of events, one at a time. The zero Writer stands ahead
// of the first event.
type Writer struct {
	eat bool // a reader would lose a newline that comes next
}

// Take takes the next event and answers how it is written.
func (w *Writer) Take(e api.Event) string {
	switch e.Kind {
	case api.KindStart:
		w.eat = vocabulary.EatsNewline(e.Name)
		return StartTag(e.Name, e.Attrs)
	case api.KindEnd:
		w.eat = false
		return EndTag(e.Name)
	case api.KindText:
		return w.text(e.Text)
	}
	return ""
}

func (w *Writer) text(text string) string {
	if text == "" {
		return ""
	}
	guard := ""
	if w.eat && text[0] == '\n' {
		guard = "\n"
	}
	w.eat = false
	return guard + Text(text)
}
