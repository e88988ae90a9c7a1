package markup

import (
	"strings"

	"scrub/api"
	"scrub/vocabulary"
)

// folder makes the tree of one stream of events.
type folder struct {
	nodes     []api.Node
	depth     int
	text      strings.Builder // of a text that is to be the next node
	textDepth int
}

func (f *folder) take(e api.Event) {
	switch e.Kind {
	case api.KindStart:
		f.start(e.Name, e.Attrs)
	case api.KindEnd:
		f.depth = max(f.depth-1, 0)
	case api.KindText:
		f.addText(e.Text)
	}
}

func (f *folder) start(name string, attrs []api.Attr) {
	if name != "" {
		f.endText()
		// The copy keeps the node's list apart from the one handed in.
		own := append([]api.Attr(nil), attrs...)
		f.nodes = append(f.nodes, api.Node{Depth: f.depth, Name: name, Attrs: own})
	}
	if !vocabulary.IsVoid(name) {
		f.depth++
	}
}

func (f *folder) addText(text string) {
	if text == "" {
		return
	}
	if f.textDepth != f.depth {
		f.endText()
	}
	f.textDepth = f.depth
	f.text.WriteString(text)
}

// endText makes a node of the text that nothing can be joined to any more.
func (f *folder) endText() {
	if f.text.Len() == 0 {
		return
	}
	f.nodes = append(f.nodes, api.Node{Depth: f.textDepth, Text: f.text.String()})
	f.text.Reset()
}
