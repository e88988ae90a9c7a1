package markup

import (
	"strings"

	"scrub/api"
	"scrub/vocabulary"
)

// isVoid tells whether there is a void element of a name.
func isVoid(name string) bool {
	element, _ := vocabulary.Find(name)
	return element.IsVoid()
}

// isShaped tells whether a list of nodes is a tree in document order.
func isShaped(nodes []api.Node) bool {
	deepest := 0 // where the next node may stand
	for _, n := range nodes {
		isText := n.Name == ""
		switch {
		case n.Depth < 0 || deepest < n.Depth:
			return false
		case isText && len(n.Attrs) > 0:
			return false
		case !isText && n.Text != "":
			return false
		}
		deepest = n.Depth
		if !isText && !isVoid(n.Name) {
			deepest++
		}
	}
	return true
}

// folder makes the tree of one stream of events.
type folder struct {
	nodes     []api.Node
	depth     int
	text      strings.Builder // of a text that is to be the next node
	textDepth int
}

func (f *folder) start(name string, attrs []api.Attr) {
	if name != "" {
		f.endText()
		// The copy keeps the node's list apart from the one handed in.
		own := append([]api.Attr(nil), attrs...)
		f.nodes = append(f.nodes, api.Node{Depth: f.depth, Name: name, Attrs: own})
	}
	if !isVoid(name) {
		f.depth++
	}
}

func (f *folder) addText(text string) {
	if text == "" {
		return
	}
	if f.textDepth != f.depth {
		f.endText()
	}
	f.textDepth = f.depth
	f.text.WriteString(text)
}

// endText makes a node of the text that nothing can be joined to any more.
func (f *folder) endText() {
	if f.text.Len() == 0 {
		return
	}
	f.nodes = append(f.nodes, api.Node{Depth: f.textDepth, Text: f.text.String()})
	f.text.Reset()
}
