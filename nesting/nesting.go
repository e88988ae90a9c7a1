// Package nesting makes a stream of events well nested, one event at a time.
// Package balance stands on it.
package nesting

import (
	"slices"

	"scrub/api"
	"scrub/ascii"
	"scrub/vocabulary"
)

// Balancer goes through the events of one stream.
type Balancer struct {
	depth int
	open  []vocabulary.Element // from the outermost to the innermost
	out   []api.Event          // what the event that is being taken gives
}

// New makes a balancer that never has more than depth elements open.
func New(depth int) *Balancer {
	return &Balancer{depth: depth}
}

// Take takes the next event and answers what is to be put out for it. Nothing
// waits for a later event, so that a text can come in pieces.
func (b *Balancer) Take(e api.Event) []api.Event {
	b.out = nil
	switch e.Kind {
	case api.KindStart:
		b.start(e.Name, e.Attrs)
	case api.KindEnd:
		b.end(e.Name)
	case api.KindText:
		b.addText(e.Text)
	}
	return b.out
}

// End closes what is open behind the last event.
func (b *Balancer) End() []api.Event {
	b.out = nil
	b.closeTo(0)
	return b.out
}

// start takes a Start.
func (b *Balancer) start(name string, attrs []api.Attr) {
	element, known := vocabulary.Find(name)
	if !known {
		return
	}
	kept, place := b.find(element.Class, b.reach(element))
	implied := place.Implied()
	if place == vocabulary.Stop || kept+len(implied)+1 > b.depth {
		return
	}
	b.closeTo(kept)
	b.openImplied(implied)
	// The copy keeps the answer's list apart from the one handed in.
	b.openElement(element, append([]api.Attr(nil), attrs...))
}

// addText takes a Text.
func (b *Balancer) addText(text string) {
	place := vocabulary.Nest(vocabulary.ModelInside(b.open), vocabulary.ClassText)
	if place != vocabulary.Take {
		text = trimFront(text)
		implied := place.Implied()
		if text == "" || len(b.open)+len(implied) > b.depth {
			return
		}
		b.openImplied(implied)
	}
	if text != "" {
		b.put(api.Event{Kind: api.KindText, Text: text})
	}
}

// end takes an End.
func (b *Balancer) end(name string) {
	element, known := vocabulary.Find(name)
	if !known {
		return
	}
	for at := len(b.open) - 1; at >= 0; at-- {
		if b.open[at] == element {
			b.closeTo(at)
			return
		}
		if isWall(b.open[at], element) {
			return
		}
	}
}

// reach is how many of the open elements an element may stand in: an a and what
// is open inside it can hold no other a, so no more than one is ever open.
func (b *Balancer) reach(element vocabulary.Element) int {
	if at := slices.Index(b.open, element); element.Name == "a" && at >= 0 {
		return at
	}
	return len(b.open)
}

// find looks for a place for a thing of some class, first in the innermost of
// count open elements. It answers how many of them stay open there.
func (b *Balancer) find(class vocabulary.Class, count int) (kept int, place vocabulary.Place) {
	for kept = count; kept >= 0; kept-- {
		if place = vocabulary.Nest(vocabulary.ModelInside(b.open[:kept]), class); place != vocabulary.Up {
			return kept, place
		}
	}
	return 0, vocabulary.Stop
}

// closeTo closes elements, the innermost first, until count are open.
func (b *Balancer) closeTo(count int) {
	for at := len(b.open) - 1; at >= count; at-- {
		b.put(api.Event{Kind: api.KindEnd, Name: b.open[at].Name})
		b.open = b.open[:at]
	}
}

// openImplied opens elements inside each other.
func (b *Balancer) openImplied(names []string) {
	for _, name := range names {
		element, _ := vocabulary.Find(name)
		b.openElement(element, nil)
	}
}

// openElement puts a Start out. A void element is closed as soon as it is open.
func (b *Balancer) openElement(element vocabulary.Element, attrs []api.Attr) {
	b.put(api.Event{Kind: api.KindStart, Name: element.Name, Attrs: attrs})
	if !element.IsVoid() {
		b.open = append(b.open, element)
	}
}

func (b *Balancer) put(e api.Event) {
	b.out = append(b.out, e)
}

// isWall tells whether an open element, which is not the one looked for, hides
// those around it from the end tag of ended.
func isWall(open, ended vocabulary.Element) bool {
	switch {
	case ended.IsTable():
		// So nothing is a wall for a table: a table is what is looked for.
		return open.Model == vocabulary.ModelTable
	case ended.Class == vocabulary.ClassItem && open.Model == vocabulary.ModelList:
		return true
	}
	return open.IsTable()
}

// trimFront takes the whitespace off the beginning of text.
func trimFront(text string) string {
	for text != "" && ascii.IsSpace(text[0]) {
		text = text[1:]
	}
	return text
}
