package markup_test

import (
	"math/rand"
	"slices"
	"strings"
	"testing"

	"scrub/api"
	"scrub/balance"
	"scrub/eventtest"
	"scrub/markup"
)

// checkBalanced is what P14 and P2 say of Write and Parse: what Balance answers is
// written so that it is read as the tree that was meant.
func checkBalanced(t *testing.T, depth int, events []api.Event) {
	t.Helper()
	balanced := balance.Balance(depth, events)
	text := markup.Write(balanced)
	tree := markup.Fold(balanced)
	got := markup.Parse(text)
	if got.Verdict != api.Accepted || !eventtest.SameNodes(got.Nodes, tree) {
		t.Fatalf("Balance(%d, %s) is written as %q and read as %d, %s", depth, eventtest.Show(events), text, got.Verdict, eventtest.ShowNodes(got.Nodes))
	}
	if want := modelParse(text); !eventtest.SameNodes(want.Nodes, tree) {
		t.Fatalf("the model reads %q as %d, %s", text, want.Verdict, eventtest.ShowNodes(want.Nodes))
	}
	if again := markup.Serialize(tree); again != text {
		t.Fatalf("the tree of %q is written as %q", text, again)
	}
	if again := balance.Balance(depth, balanced); !eventtest.Same(again, balanced) {
		t.Fatalf("Balance(%d, %s) = %s, want the same", depth, eventtest.Show(balanced), eventtest.Show(again))
	}
	for _, n := range tree {
		if n.Depth > depth || n.Name != "" && n.Depth >= depth {
			t.Fatalf("Balance(%d, %s) gives %s", depth, eventtest.Show(events), eventtest.ShowNodes(tree))
		}
	}
}

const allAttributes = "alt cite class colspan dir height href id lang rel rowspan src start title width"

// goodTexts are what texts and values are made of.
var goodTexts = []string{
	"x", " ", "\n", "\n", "\nx", "\t\f ", "&", "<", ">", "\"", "'", "\u00a0", "&amp;", "</b>", "\u00e9\ufffd", "\U0010fffd", "", "-->", "/",
}

func goodText(random *rand.Rand) string {
	return goodTexts[random.Intn(len(goodTexts))] + goodTexts[random.Intn(len(goodTexts))]
}

// knownAttrs picks known attributes, none twice.
func knownAttrs(random *rand.Rand) []api.Attr {
	var attrs []api.Attr
	names := strings.Fields(allAttributes)
	for _, at := range random.Perm(len(names))[:max(random.Intn(7)-3, 0)] {
		attrs = append(attrs, api.Attr{Name: names[at], Value: goodText(random)})
	}
	return attrs
}

// goodEvents makes events whose names are anything, but whose attributes, texts
// and values are such as Filter answers.
func goodEvents(random *rand.Rand, names []string, count int) []api.Event {
	var events []api.Event
	for range count {
		e := api.Event{Kind: 1 + random.Intn(3), Name: names[random.Intn(len(names))], Text: goodText(random), Attrs: knownAttrs(random)}
		if random.Intn(30) == 0 {
			e.Kind = random.Intn(9) - 2
		}
		events = append(events, e)
	}
	return events
}

var nameSets = [][]string{
	strings.Fields(allNames + " svg B script <b> \" b\x00 \xff title"),
	append(strings.Fields("table tbody thead tr td th b li ul a p"), "", " "),
	strings.Fields("ul ol li p b a div br h1 h2"),
	strings.Fields("pre textarea b p td table"),
	strings.Fields("a b p h1 h2 hr"),
}

func TestBalancedEventsAreReadAsTheirTree(t *testing.T) {
	random := rand.New(rand.NewSource(27))
	for i := range 8000 {
		depth := 1 + random.Intn(14)
		if i%10 == 0 {
			depth = 1 + random.Intn(api.MaxDepth)
		}
		events := goodEvents(random, nameSets[i%len(nameSets)], 1+random.Intn(40))
		checkBalanced(t, depth, events)
		cut := eventtest.CutTexts(random.Intn, events)
		checkBalanced(t, depth, cut)
		if got, want := markup.Write(balance.Balance(depth, cut)), markup.Write(balance.Balance(depth, events)); got != want {
			t.Fatalf("cut texts give %q, want %q", got, want)
		}
	}
}

// Each short row of events, at each depth that matters.
func TestShortRowsOfBalancedEvents(t *testing.T) {
	all := eventtest.Read("<a href=u></a><b></b><br><textarea></textarea><pre></pre><p></p><h1></h1><hr><div></div><ul></ul><li></li><table></table><tbody><tr><td></td>[x][ ][\n]")
	var each func(events []api.Event, left int)
	each = func(events []api.Event, left int) {
		for _, depth := range []int{1, 2, 4, 5, 9} {
			checkBalanced(t, depth, events)
		}
		if left == 0 {
			return
		}
		for _, e := range all {
			each(append(events[:len(events):len(events)], e), left-1)
		}
	}
	each(nil, 2)
	each(eventtest.Read("<table><td>"), 2)
	each(eventtest.Read("<ul><li><a><div>"), 2)
	each(eventtest.Read("<a><table><th><p><b>"), 2)
}

// What Balance lets in at its greatest depth is not too deep for Parse.
func TestDeepBalancedEvents(t *testing.T) {
	random := rand.New(rand.NewSource(28))
	for _, row := range []string{"<div>", "<b>", "<table><td>", "<ul>", "<blockquote><b>", "<ul><li><div>", "<table>[x]", "<ul>[x]", "<div><br>[x]", "<a><table><td>"} {
		events := slices.Repeat(eventtest.Read(row), 2*api.MaxDepth)
		for _, depth := range []int{1, api.MaxDepth - 3, api.MaxDepth - 1, api.MaxDepth} {
			checkBalanced(t, depth, events)
			checkBalanced(t, depth, append(events[:random.Intn(len(events)):len(events)], goodEvents(random, nameSets[0], 40)...))
		}
	}
	deep := markup.Parse(markup.Write(balance.Balance(api.MaxDepth, slices.Repeat(eventtest.Read("<div>"), 300))))
	if len(deep.Nodes) != api.MaxDepth || deep.Nodes[api.MaxDepth-1].Depth != api.MaxDepth-1 {
		t.Errorf("300 elements are read as %d nodes", len(deep.Nodes))
	}
}
