package balance

import (
	"slices"

	"scrub/api"
	"scrub/ascii"
	"scrub/stream"
	"scrub/vocabulary"
)

// balancer goes through the events of one call.
type balancer struct {
	depth int
	open  []vocabulary.Element // from the outermost to the innermost
	out   stream.Stream
}

// start takes a Start.
func (b *balancer) start(name string, attrs []api.Attr) {
	element, known := vocabulary.Find(name)
	if !known {
		return
	}
	kept, place := b.find(element.Class, b.reach(element))
	implied := place.Implied()
	if place == vocabulary.Stop || kept+len(implied)+1 > b.depth {
		return
	}
	b.closeTo(kept)
	b.openImplied(implied)
	// The copy keeps the answer's list apart from the one handed in.
	b.openElement(element, append([]api.Attr(nil), attrs...))
}

// addText takes a Text.
func (b *balancer) addText(text string) {
	place := vocabulary.Nest(b.model(len(b.open)), vocabulary.ClassText)
	if place != vocabulary.Take {
		text = trimFront(text)
		implied := place.Implied()
		if text == "" || len(b.open)+len(implied) > b.depth {
			return
		}
		b.openImplied(implied)
	}
	b.out.PutText(text)
}

// end takes an End.
func (b *balancer) end(name string) {
	element, known := vocabulary.Find(name)
	if !known {
		return
	}
	for at := len(b.open) - 1; at >= 0; at-- {
		if b.open[at] == element {
			b.closeTo(at)
			return
		}
		if isWall(b.open[at], element) {
			return
		}
	}
}

// answer closes what is open and is all events.
func (b *balancer) answer() []api.Event {
	b.closeTo(0)
	return b.out.Events()
}

// reach is how many of the open elements an element may stand in: an a and what
// is open inside it can hold no other a, so no more than one is ever open.
func (b *balancer) reach(element vocabulary.Element) int {
	if at := slices.Index(b.open, element); element.Name == "a" && at >= 0 {
		return at
	}
	return len(b.open)
}

// find looks for a place for a thing of some class, first in the innermost of
// count open elements. It answers how many of them stay open there.
func (b *balancer) find(class vocabulary.Class, count int) (kept int, place vocabulary.Place) {
	for kept = count; kept >= 0; kept-- {
		if place = vocabulary.Nest(b.model(kept), class); place != vocabulary.Up {
			return kept, place
		}
	}
	return 0, vocabulary.Stop
}

// model is what is taken inside the innermost of count open elements.
func (b *balancer) model(count int) vocabulary.Model {
	if count == 0 {
		return vocabulary.ModelFlow
	}
	return b.open[count-1].Model
}

// closeTo closes elements, the innermost first, until count are open.
func (b *balancer) closeTo(count int) {
	for at := len(b.open) - 1; at >= count; at-- {
		b.out.Put(api.Event{Kind: api.KindEnd, Name: b.open[at].Name})
		b.open = b.open[:at]
	}
}

// openImplied opens elements inside each other.
func (b *balancer) openImplied(names []string) {
	for _, name := range names {
		element, _ := vocabulary.Find(name)
		b.openElement(element, nil)
	}
}

// openElement puts a Start out. A void element is closed as soon as it is open.
func (b *balancer) openElement(element vocabulary.Element, attrs []api.Attr) {
	b.out.Put(api.Event{Kind: api.KindStart, Name: element.Name, Attrs: attrs})
	if !element.IsVoid() {
		b.open = append(b.open, element)
	}
}

// isWall tells whether an open element, which is not the one looked for, hides
// those around it from the end tag of ended.
func isWall(open, ended vocabulary.Element) bool {
	switch {
	case ended.IsTable():
		// So nothing is a wall for a table: a table is what is looked for.
		return open.Model == vocabulary.ModelTable
	case ended.Class == vocabulary.ClassItem && open.Model == vocabulary.ModelList:
		return true
	}
	return open.IsTable()
}

// trimFront takes the whitespace off the beginning of text.
func trimFront(text string) string {
	for text != "" && ascii.IsSpace(text[0]) {
		text = text[1:]
	}
	return text
}
