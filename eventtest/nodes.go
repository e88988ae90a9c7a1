package eventtest

import (
	"slices"
	"strings"

	"scrub/api"
)

// ReadNodes reads a tree in the short form of events: as many points as the
// node has ancestors, and then <name k=v> or [text].
func ReadNodes(short string) []api.Node {
	var nodes []api.Node
	for short != "" {
		behind := strings.TrimLeft(short, ".")
		node := api.Node{Depth: len(short) - len(behind)}
		var event api.Event
		event, short = readOne(behind)
		node.Name, node.Attrs, node.Text = event.Name, event.Attrs, event.Text
		nodes = append(nodes, node)
	}
	return nodes
}

// ShowNodes writes a tree in the short form.
func ShowNodes(nodes []api.Node) string {
	var short strings.Builder
	for _, n := range nodes {
		event := api.Event{Kind: api.KindStart, Name: n.Name, Attrs: n.Attrs}
		if n.Name == "" {
			event = api.Event{Kind: api.KindText, Text: n.Text}
		}
		short.WriteString(strings.Repeat(".", max(n.Depth, 0)) + Show([]api.Event{event}))
	}
	return short.String()
}

// SameNodes tells whether two trees are the same in every field.
func SameNodes(one, other []api.Node) bool {
	return slices.EqualFunc(one, other, func(x, y api.Node) bool {
		return x.Depth == y.Depth && x.Name == y.Name && x.Text == y.Text && slices.Equal(x.Attrs, y.Attrs)
	})
}
