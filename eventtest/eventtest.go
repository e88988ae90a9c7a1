// Package eventtest helps the tests of the other packages with lists of events.
package eventtest

import (
	"slices"
	"strings"

	"scrub/api"
)

// Read reads events in a short form: <name k=v k=v>, </name>, [text], and ? for
// an event of no kind. It is for tests alone: what is not of this form panics.
func Read(short string) []api.Event {
	var events []api.Event
	for short != "" {
		var event api.Event
		event, short = readOne(short)
		events = append(events, event)
	}
	return events
}

func readOne(short string) (event api.Event, behind string) {
	switch {
	case short[0] == '?':
		attrs := []api.Attr{{Name: "id", Value: "v"}}
		return api.Event{Kind: 9, Name: "b", Attrs: attrs, Text: "x"}, short[1:]
	case short[0] == '[':
		text, behind := cut(short[1:], "]")
		return api.Event{Kind: api.KindText, Text: text}, behind
	case strings.HasPrefix(short, "</"):
		name, behind := cut(short[2:], ">")
		return api.Event{Kind: api.KindEnd, Name: name}, behind
	}
	tag, behind := cut(strings.TrimPrefix(short, "<"), ">")
	words := strings.Split(tag, " ")
	return api.Event{Kind: api.KindStart, Name: words[0], Attrs: readAttrs(words[1:])}, behind
}

func readAttrs(words []string) []api.Attr {
	var attrs []api.Attr
	for _, word := range words {
		name, value := cut(word, "=")
		attrs = append(attrs, api.Attr{Name: name, Value: value})
	}
	return attrs
}

func cut(short, sign string) (ahead, behind string) {
	ahead, behind, found := strings.Cut(short, sign)
	if !found {
		panic("no " + sign + " in " + short)
	}
	return ahead, behind
}

// Show writes events in the short form.
func Show(events []api.Event) string {
	var short strings.Builder
	for _, e := range events {
		switch e.Kind {
		case api.KindStart:
			short.WriteString("<" + e.Name)
			for _, a := range e.Attrs {
				short.WriteString(" " + a.Name + "=" + a.Value)
			}
			short.WriteString(">")
		case api.KindEnd:
			short.WriteString("</" + e.Name + ">")
		case api.KindText:
			short.WriteString("[" + e.Text + "]")
		default:
			short.WriteString("?")
		}
	}
	return short.String()
}

// Same tells whether two lists of events are the same in every field.
func Same(one, other []api.Event) bool {
	return slices.EqualFunc(one, other, func(x, y api.Event) bool {
		return x.Kind == y.Kind && x.Name == y.Name && x.Text == y.Text && slices.Equal(x.Attrs, y.Attrs)
	})
}

// CutTexts cuts each text in two, with an event in between that Balance loses.
// pick picks one of the numbers from 0 on that are less than the one it is given.
func CutTexts(pick func(int) int, events []api.Event) []api.Event {
	lost := Read("[]?</svg><svg>")
	var pieces []api.Event
	for _, e := range events {
		if e.Kind != api.KindText {
			pieces = append(pieces, e)
			continue
		}
		at := pick(len(e.Text) + 1)
		pieces = append(pieces, api.Event{Kind: api.KindText, Text: e.Text[:at]}, lost[pick(len(lost))])
		pieces = append(pieces, api.Event{Kind: api.KindText, Text: e.Text[at:]})
	}
	return pieces
}
