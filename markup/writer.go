package markup

import (
	"strings"

	"scrub/api"
	"scrub/vocabulary"
	"scrub/written"
)

// writer collects what the events of one call are written as.
type writer struct {
	form written.Writer
	out  strings.Builder
}

func (w *writer) take(e api.Event) {
	w.out.WriteString(w.form.Take(e))
}

// treeWriter writes the nodes of a shaped list. There a node's depth is the
// number of elements that it stands in.
type treeWriter struct {
	writer
	open []string // from the outermost to the innermost
}

func (w *treeWriter) add(n api.Node) {
	w.closeTo(n.Depth)
	if n.Name == "" {
		w.take(api.Event{Kind: api.KindText, Text: n.Text})
		return
	}
	w.take(api.Event{Kind: api.KindStart, Name: n.Name, Attrs: n.Attrs})
	if !vocabulary.IsVoid(n.Name) {
		w.open = append(w.open, n.Name)
	}
}

// closeTo closes elements, the innermost first, until count are open.
func (w *treeWriter) closeTo(count int) {
	for at := len(w.open) - 1; at >= count; at-- {
		w.take(api.Event{Kind: api.KindEnd, Name: w.open[at]})
		w.open = w.open[:at]
	}
}
