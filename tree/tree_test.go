package tree_test

import (
	"math"
	"testing"

	"scrub/api"
	"scrub/eventtest"
	"scrub/tree"
)

func TestIsShaped(t *testing.T) {
	for short, want := range map[string]bool{
		"":                           true,
		"[]":                         true,
		"[x][y]":                     true,
		"<b>.<foo>..[x].[y]<br>":     true,
		"<br><hr><img src=u>":        true,
		"<BR>.[x]":                   true,
		"<td>.<p>..<p>...<p>[x]<li>": true,
		".[x]":                       false,
		".<b>":                       false,
		"<b>..[x]":                   false,
		"<b>.[x]..[y]":               false,
		"[x].<b>":                    false,
		"[].[x]":                     false,
		"<br>.[x]":                   false,
		"<b>.<hr>..<b>":              false,
		"<b><b><img>.[x]":            false,
	} {
		if got := tree.IsShaped(eventtest.ReadNodes(short)); got != want {
			t.Errorf("IsShaped(%s) = %v", short, got)
		}
	}
}

func TestDepthsAndFieldsOutOfShape(t *testing.T) {
	b, attrs := api.Node{Name: "b"}, []api.Attr{{Name: "id"}}
	for i, n := range []api.Node{
		{Depth: -1, Name: "b"}, {Depth: -1, Text: "x"}, {Depth: math.MinInt, Name: "b"}, {Depth: math.MaxInt, Text: "x"}, {Depth: 2, Name: "b"},
		{Name: "b", Text: "x"}, {Name: "br", Text: "x"}, {Text: "x", Attrs: attrs}, {Attrs: attrs}, {Depth: 1, Attrs: attrs},
	} {
		if tree.IsShaped([]api.Node{b, n}) || tree.IsShaped([]api.Node{b, n, b}) {
			t.Errorf("a list with node %d, %v, is shaped", i, n)
		}
	}
	if !tree.IsShaped([]api.Node{b, {Depth: 1, Text: "x", Attrs: []api.Attr{}}, {Name: "b", Attrs: attrs}}) {
		t.Error("a tree is not shaped")
	}
}
