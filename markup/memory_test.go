package markup_test

import (
	"strings"
	"testing"

	"scrub/api"
	"scrub/eventtest"
	"scrub/markup"
)

const (
	mixedStream = "[x]<pre k=v l=w>[\n]?[y]<i></b><>[ ][z]<br id=1><>?<table><a href=u><a title=v><li k=v>[ ]</a>[w]"
	mixedTree   = "[x]<pre k=v l=w>.[\ny].<i>.[z].<br id=1>.<a href=u>..<a title=v>..[w]<b>"
	mixedText   = `x<pre k="v" l="w">` + "\n\ny" + `<i></i><u>z&lt;</u><br id="1"><a href="u" title="v">w</a><b>x</b></pre>`
)

func TestEventsStayAsTheyAre(t *testing.T) {
	events := eventtest.Roomy(eventtest.Read(mixedStream))
	before := eventtest.Whole(events)
	check := func(call string) {
		t.Helper()
		if !eventtest.Same(eventtest.Whole(events), before) {
			t.Fatalf("%s changes what was handed in", call)
		}
	}
	if text := markup.Write(events); !strings.HasSuffix(text, "w") {
		t.Errorf("Write reads behind the list's end: %q", text)
	}
	check("Write")
	tree := markup.Fold(events)
	if last := tree[len(tree)-1]; last.Text != "w" {
		t.Errorf("Fold reads behind the list's end: %v", last)
	}
	check("Fold")
	_ = append(tree, api.Node{}, api.Node{})
	for _, n := range tree {
		_ = append(n.Attrs, api.Attr{}, api.Attr{})
	}
	check("appending to an answer of Fold")
	eventtest.SpoilNodes(tree)
	check("writing over an answer of Fold")
}

func TestNodesStayAsTheyAre(t *testing.T) {
	for _, short := range []string{mixedTree, mixedTree + "..<b>"} {
		nodes := eventtest.RoomyNodes(eventtest.ReadNodes(short))
		before := eventtest.WholeNodes(nodes)
		if text := markup.Serialize(nodes); strings.Contains(text, "behind") {
			t.Errorf("Serialize reads behind a list's end: %q", text)
		}
		if !eventtest.SameNodes(eventtest.WholeNodes(nodes), before) {
			t.Fatalf("Serialize(%s) changes what it is handed", short)
		}
	}
}

// Lists that are empty, but have room behind their ends.
func TestRoomBehindEmptyLists(t *testing.T) {
	events := eventtest.Roomy(eventtest.Read("<b><b>"))
	nodes := eventtest.RoomyNodes(eventtest.ReadNodes("<b>[x]"))
	wantEvents, wantNodes := eventtest.Whole(events), eventtest.WholeNodes(nodes)
	for _, tree := range [][]api.Node{markup.Fold(events), markup.Fold(events[:1]), markup.Fold(events[:0])} {
		for _, n := range tree {
			_ = append(n.Attrs, api.Attr{Name: "spoiled"})
		}
		_ = append(tree, api.Node{Name: "spoiled"})
	}
	if got := markup.Write(events[:0]) + markup.Serialize(nodes[:0]); got != "" {
		t.Errorf("empty lists are written as %q", got)
	}
	if got := markup.Serialize(nodes); got != "<b></b>x" {
		t.Errorf("Serialize gives %q", got)
	}
	if !eventtest.Same(eventtest.Whole(events), wantEvents) || !eventtest.SameNodes(eventtest.WholeNodes(nodes), wantNodes) {
		t.Error("what was handed in has changed")
	}
}

func TestListsOfAnswersShareNoMemory(t *testing.T) {
	events := eventtest.Roomy(eventtest.Read(mixedStream))
	one, other := markup.Fold(events), markup.Fold(events)
	if len(one) == 0 || !eventtest.SameNodes(one, other) {
		t.Fatalf("Fold gives %s and %s", eventtest.ShowNodes(one), eventtest.ShowNodes(other))
	}
	read, again := markup.Parse(mixedText), markup.Parse(mixedText)
	if read.Verdict != api.Accepted || !eventtest.SameNodes(read.Nodes, again.Nodes) {
		t.Fatalf("Parse gives %d, %s and %d, %s", read.Verdict, eventtest.ShowNodes(read.Nodes), again.Verdict, eventtest.ShowNodes(again.Nodes))
	}
	rejected := markup.Parse(mixedText + "<")
	if eventtest.ShareNodes(one, other, read.Nodes, again.Nodes, rejected.Nodes, markup.Fold(events[:0]), markup.Parse("").Nodes) {
		t.Error("two lists of the answers share memory")
	}
	checkFold(t, events, modelFold(events))
	checkParsed(t, mixedText, modelParse(mixedText))
}

// An appended attribute is seen in no other list, not even behind an empty one.
func TestAppendingChangesNoOtherList(t *testing.T) {
	stream := eventtest.Read("<b><i x=1><u><q y=2 z=3><s k=1 l=2 m=3><b>")
	text := `<b><i x="1"><u><q y="2" z="3"><s k="1" l="2" m="3"><b></b></s></q></u></i></b>`
	const want = "<b>.<i x=1>..<u>...<q y=2 z=3>....<s k=1 l=2 m=3>.....<b>"
	for _, nodes := range [][]api.Node{markup.Fold(stream), markup.Parse(text).Nodes} {
		var longer [][]api.Attr
		for _, n := range nodes {
			longer = append(longer, append(n.Attrs, api.Attr{Name: n.Name}))
		}
		for i, n := range nodes {
			if last := longer[i][len(n.Attrs)]; last.Name != n.Name {
				t.Errorf("behind the list of node %d stands %v", i, last)
			}
		}
		if got := eventtest.ShowNodes(nodes); got != want {
			t.Errorf("the answer has become %s", got)
		}
	}
}

// What a caller does to an answer is not seen in a later one.
func TestNothingIsKept(t *testing.T) {
	for range 3 {
		events := eventtest.Read(mixedStream)
		tree := markup.Fold(events)
		read := markup.Parse(mixedText)
		if !eventtest.SameNodes(tree, modelFold(events)) || !eventtest.SameNodes(read.Nodes, modelParse(mixedText).Nodes) {
			t.Fatalf("the answers are %s and %s", eventtest.ShowNodes(tree), eventtest.ShowNodes(read.Nodes))
		}
		eventtest.SpoilNodes(tree)
		eventtest.SpoilNodes(read.Nodes)
	}
}
