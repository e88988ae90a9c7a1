package sanitize

import (
	"slices"

	"scrub/api"
	"scrub/chars"
	"scrub/sieve"
	"scrub/vocabulary"
)

// fitter goes through the nodes of a shaped list under a valid policy.
type fitter struct {
	depth   int
	allowed *sieve.Sieve
	open    []vocabulary.Element // from the outermost to the innermost
	textAt  int                  // the last node's depth if it is a text
}

// noText stands for a depth where the last node is no text.
const noText = -1

// newFitter makes a fitter for a valid policy.
func newFitter(p api.Policy) *fitter {
	return &fitter{depth: p.Depth, allowed: sieve.New(p), textAt: noText}
}

// fits tells whether the next node is one that the policy leaves as it is.
func (f *fitter) fits(n api.Node) bool {
	f.open = f.open[:n.Depth]
	if n.Name != "" {
		f.textAt = noText
		return f.fitsElement(n)
	}
	meetsText := f.textAt == n.Depth
	f.textAt = n.Depth
	return !meetsText && f.fitsText(n.Text)
}

func (f *fitter) fitsText(text string) bool {
	return text != "" && isGood(text) && f.mayHold(vocabulary.ClassText)
}

func (f *fitter) fitsElement(n api.Node) bool {
	element, _ := vocabulary.Find(n.Name)
	switch {
	case n.Depth >= f.depth, !f.isAllowed(n), !f.mayHold(element.Class):
		return false
	case element.Name == "a" && slices.Contains(f.open, element):
		return false
	}
	for _, attr := range n.Attrs {
		if !isGood(attr.Value) {
			return false
		}
	}
	if !element.IsVoid() {
		f.open = append(f.open, element)
	}
	return true
}

// isAllowed tells whether a start tag stays as it is, with all its attributes.
func (f *fitter) isAllowed(n api.Node) bool {
	start := api.Event{Kind: api.KindStart, Name: n.Name, Attrs: n.Attrs}
	kept, stays := f.allowed.Take(start)
	return stays && slices.Equal(kept.Attrs, n.Attrs)
}

// mayHold tells whether a thing of some class may stand in the innermost open element.
func (f *fitter) mayHold(class vocabulary.Class) bool {
	return vocabulary.Nest(vocabulary.ModelInside(f.open), class) == vocabulary.Take
}

// isGood tells whether a string is made of good characters alone.
func isGood(text string) bool {
	// Normal leaves what is good as it is, and nothing else.
	return chars.Normal(text) == text
}
