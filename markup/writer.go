package markup

import (
	"strings"

	"scrub/api"
	"scrub/vocabulary"
	"scrub/written"
)

// writer writes the events of one call.
type writer struct {
	out strings.Builder
	eat bool // a reader would lose a newline that comes next
}

func (w *writer) start(name string, attrs []api.Attr) {
	w.out.WriteString(written.StartTag(name, attrs))
	w.eat = vocabulary.EatsNewline(name)
}

func (w *writer) end(name string) {
	w.out.WriteString(written.EndTag(name))
	w.eat = false
}

func (w *writer) addText(text string) {
	if text == "" {
		return
	}
	if w.eat && text[0] == '\n' {
		w.out.WriteByte('\n')
	}
	w.out.WriteString(written.Text(text))
	w.eat = false
}

// treeWriter writes the nodes of a shaped list. There a node's depth is the
// number of elements that it stands in.
type treeWriter struct {
	writer
	open []string // from the outermost to the innermost
}

func (w *treeWriter) add(n api.Node) {
	w.closeTo(n.Depth)
	if n.Name == "" {
		w.addText(n.Text)
		return
	}
	w.start(n.Name, n.Attrs)
	if !isVoid(n.Name) {
		w.open = append(w.open, n.Name)
	}
}

// closeTo closes elements, the innermost first, until count are open.
func (w *treeWriter) closeTo(count int) {
	for at := len(w.open) - 1; at >= count; at-- {
		w.end(w.open[at])
		w.open = w.open[:at]
	}
}
