package markup_test

import (
	"math/rand"
	"strings"
	"testing"

	"scrub/api"
	"scrub/eventtest"
	"scrub/markup"
)

func checkFold(t *testing.T, events []api.Event, want []api.Node) {
	t.Helper()
	if got := markup.Fold(events); !eventtest.SameNodes(got, want) {
		t.Errorf("Fold(%s) = %s, want %s", eventtest.Show(events), eventtest.ShowNodes(got), eventtest.ShowNodes(want))
	}
}

func TestFold(t *testing.T) {
	for in, want := range map[string]string{
		"":   "",
		"[]": "",
		"?":  "",

		// The three examples of 7.2.
		"[a]</p>[b]":          "[ab]",
		"<>[a]</x>[b]":        ".[a][b]",
		"[a]<></>[b]":         "[ab]",
		"[a]<></whatever>[b]": "[ab]",

		// Elements and depths.
		"<p><b>[x]</b></p>[y]":           "<p>.<b>..[x][y]",
		"<p k=v l=>[x]":                  "<p k=v l=>.[x]",
		"<zz k=v><i></i>[x]":             "<zz k=v>.<i>.[x]",
		"<b></b><b></b>":                 "<b><b>",
		"<b><b>":                         "<b>.<b>",
		"<br>[x]<hr><img src=u><b>[y]":   "<br>[x]<hr><img src=u><b>.[y]",
		"<p><br>[x]</br>[y]":             "<p>.<br>.[x][y]",
		"<BR>[x]":                        "<BR>.[x]",
		"<p></b>[x]":                     "<p>[x]",
		"<p></>[x]":                      "<p>[x]",
		"<td><b id=1 id=2>":              "<td>.<b id=1 id=2>",
		"<p>?[x]?<b>":                    "<p>.[x].<b>",
		"</p></p></p><b></b></b></b><i>": "<b><i>",

		// An empty Name.
		"<>":             "",
		"< k=v><b>":      ".<b>",
		"<><><b>[x]</>":  "..<b>...[x]",
		"<p><></></>[x]": "<p>[x]",

		// Texts that are joined, and texts that are not.
		"[a][][b]?[c]":               "[abc]",
		"[a]</b></i>[b]":             "[ab]",
		"<i>[a]</i><>[b]":            "<i>.[ab]",
		"<i>[a]</i><>[]</>[b]":       "<i>.[a][b]",
		"[a]<><>[]</></>[b]":         "[ab]",
		"[a]<>[x]</>[b]":             "[a].[x][b]",
		"[a]<br>[b]":                 "[a]<br>[b]",
		"[a]<b></b>[b]":              "[a]<b>[b]",
		"<b>[a]</b>[b]":              "<b>.[a][b]",
		"[a]<b>[b]":                  "[a]<b>.[b]",
		"[a]<><b></b></>[b]":         "[a].<b>[b]",
		"<><><>[a]</></></>[b]<>[c]": "...[a][b].[c]",
	} {
		checkFold(t, eventtest.Read(in), eventtest.ReadNodes(want))
	}
}

// What has no meaning in an event is not looked at, and is not in the answer.
func TestFoldOfOtherFields(t *testing.T) {
	attrs := []api.Attr{{Name: "id"}}
	checkFold(t, []api.Event{
		{Kind: api.KindStart, Name: "b", Text: "x"},
		{Kind: api.KindText, Name: "p", Attrs: attrs, Text: "y"},
		{Kind: api.KindEnd, Name: "b", Attrs: attrs, Text: "z"},
		{Kind: 0, Name: "b", Attrs: attrs, Text: "z"},
		{Kind: -1, Name: "b", Text: "z"},
		{Kind: 4, Name: "b", Text: "z"},
		{Kind: api.KindText, Text: "\xff"},
	}, eventtest.ReadNodes("<b>.[y][\xff]"))
}

// modelFold goes by the words of 7.2, with each text joined as it comes.
func modelFold(events []api.Event) []api.Node {
	var nodes []api.Node
	depth := 0
	for _, e := range events {
		switch e.Kind {
		case api.KindStart:
			if e.Name != "" {
				nodes = append(nodes, api.Node{Depth: depth, Name: e.Name, Attrs: e.Attrs})
			}
			if e.Name != "br" && e.Name != "hr" && e.Name != "img" {
				depth++
			}
		case api.KindEnd:
			if depth != 0 {
				depth--
			}
		case api.KindText:
			last := len(nodes) - 1
			switch {
			case e.Text == "":
			case last >= 0 && nodes[last].Name == "" && nodes[last].Depth == depth:
				nodes[last].Text += e.Text
			default:
				nodes = append(nodes, api.Node{Depth: depth, Text: e.Text})
			}
		}
	}
	return nodes
}

func TestFoldOfShortStreamsAgainstModel(t *testing.T) {
	all := eventtest.Read("<b k=v><>?<br></b></>[x][]")
	var each func(events []api.Event, left int)
	each = func(events []api.Event, left int) {
		checkFold(t, events, modelFold(events))
		if left == 0 || t.Failed() {
			return
		}
		for _, e := range all {
			each(append(events[:len(events):len(events)], e), left-1)
		}
	}
	each(nil, 6)
}

func TestFoldAgainstModel(t *testing.T) {
	random := rand.New(rand.NewSource(23))
	for range 100000 {
		events := randomStream(random)
		if checkFold(t, events, modelFold(events)); t.Failed() {
			return
		}
	}
}

// A text of many pieces takes no longer than its length asks.
func TestFoldOfManyPieces(t *testing.T) {
	piece := eventtest.Read("[abcd]</b>")
	var events []api.Event
	for range 500000 {
		events = append(events, piece...)
	}
	got := markup.Fold(events)
	if len(got) != 1 || got[0].Text != strings.Repeat("abcd", 500000) {
		t.Errorf("Fold gives %d nodes", len(got))
	}
}
