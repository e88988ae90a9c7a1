package markup_test

import (
	"math"
	"math/rand"
	"strings"
	"testing"

	"scrub/api"
	"scrub/eventtest"
	"scrub/markup"
)

func checkSerialize(t *testing.T, nodes []api.Node, want string) {
	t.Helper()
	if got := markup.Serialize(nodes); got != want {
		t.Errorf("Serialize(%s) = %q, want %q", eventtest.ShowNodes(nodes), got, want)
	}
}

func TestSerialize(t *testing.T) {
	for in, want := range map[string]string{
		"":                                  "",
		"[]":                                "",
		"[x]":                               "x",
		"[a][][b]":                          "ab",
		"<p>":                               "<p></p>",
		"<p>.<b>..<i>":                      "<p><b><i></i></b></p>",
		"<p>.<b>..[x].<i>..[y]<u>":          "<p><b>x</b><i>y</i></p><u></u>",
		"<p>.<b>..<i>...[x][y]":             "<p><b><i>x</i></b></p>y",
		"<p>.[a].<br>.[b][c]<hr>":           "<p>a<br>b</p>c<hr>",
		"<br><hr><img src=u>":               `<br><hr><img src="u">`,
		"<a href=u title=\">.[<&>\u00a0\"]": "<a href=\"u\" title=\"&quot;\">&lt;&amp;&gt;&nbsp;\"</a>",
		"<X-y id=1 id=2>.<BR>..[x]":         `<X-y id="1" id="2"><BR>x</BR></X-y>`,
		"<td>.<p>..<p>":                     "<td><p><p></p></p></td>",
		"[\xff]":                            "\xff",

		// The newline guard.
		"<pre>.[\n]":             "<pre>\n\n</pre>",
		"<pre>.[\nx]":            "<pre>\n\nx</pre>",
		"<textarea>.[\n\n]":      "<textarea>\n\n\n</textarea>",
		"<pre>.[].[].[\n]":       "<pre>\n\n</pre>",
		"<pre>.[x].[\n]":         "<pre>x\n</pre>",
		"<pre>.<b>..[\n]":        "<pre><b>\n</b></pre>",
		"<pre>.<br>.[\n]":        "<pre><br>\n</pre>",
		"<pre>[\n]":              "<pre></pre>\n",
		"<pre>.[][\n]":           "<pre></pre>\n",
		"<p>.[\n]":               "<p>\n</p>",
		"<pre>.<pre>..[\n].[\n]": "<pre><pre>\n\n</pre>\n</pre>",
	} {
		checkSerialize(t, eventtest.ReadNodes(in), want)
	}
}

func TestSerializeOfUnshapedLists(t *testing.T) {
	for _, in := range []string{
		".<p>", ".[x]", "..<p>", // the first node
		"<p>..<b>", "<p>.<b>...<i>", "<p>..[x]", "<p><b>..[x]", // more than one deeper than an element
		"<br>.[x]", "<hr>.<b>", "<img src=u>.[x]", "<p>.<br>..[x]", // inside of a void element
		"[x].[y]", "[x].<b>", "<p>.[x]..<b>", "[].<b>", // inside of a text
		"[x]<b>.[y]...<i>", "<b>[x]..[y]",
	} {
		checkSerialize(t, eventtest.ReadNodes(in), "")
	}
	p, x := api.Node{Name: "p"}, api.Node{Text: "x"}
	attrs := []api.Attr{{Name: "id"}}
	for _, nodes := range [][]api.Node{
		{{Depth: -1, Name: "p"}},
		{{Depth: math.MinInt, Text: "x"}},
		{{Depth: math.MaxInt, Name: "p"}},
		{p, {Depth: -1, Name: "b"}},
		{p, {Depth: -1, Text: "x"}},
		{p, {Depth: math.MinInt, Name: "b"}, p},
		{p, {Depth: math.MaxInt, Name: "b"}},
		{{Depth: math.MaxInt, Name: "p"}, {Depth: math.MinInt, Name: "p"}},
		{{Name: "p", Text: "x"}},
		{{Name: "br", Text: "x"}},
		{x, {Name: "p", Text: "x"}, x},
		{{Text: "x", Attrs: attrs}},
		{{Attrs: attrs}},
		{p, {Depth: 1, Text: "x", Attrs: attrs}},
		{p, p, p, {Depth: 2}},
	} {
		checkSerialize(t, nodes, "")
	}
	checkSerialize(t, []api.Node{{Text: "x", Attrs: []api.Attr{}}}, "x")
}

// modelShaped goes by the words of 7.3.
func modelShaped(nodes []api.Node) bool {
	for i, n := range nodes {
		if n.Depth < 0 || i == 0 && n.Depth != 0 {
			return false
		}
		if n.Name == "" && len(n.Attrs) > 0 || n.Name != "" && n.Text != "" {
			return false
		}
		if i == 0 {
			continue
		}
		before := nodes[i-1]
		holds := before.Name != "" && !strings.Contains(" br hr img ", " "+before.Name+" ")
		if n.Depth > before.Depth && !(holds && n.Depth == before.Depth+1) {
			return false
		}
	}
	return true
}

// modelEvents is the events of the nodes of one depth with all that is in them.
func modelEvents(nodes []api.Node) []api.Event {
	var events []api.Event
	for len(nodes) > 0 {
		n := nodes[0]
		end := 1
		for end < len(nodes) && nodes[end].Depth > n.Depth {
			end++
		}
		inside := modelEvents(nodes[1:end])
		nodes = nodes[end:]
		if n.Name == "" {
			events = append(events, api.Event{Kind: api.KindText, Text: n.Text})
			continue
		}
		events = append(events, api.Event{Kind: api.KindStart, Name: n.Name, Attrs: n.Attrs})
		events = append(events, inside...)
		if !strings.Contains(" br hr img ", " "+n.Name+" ") {
			events = append(events, api.Event{Kind: api.KindEnd, Name: n.Name})
		}
	}
	return events
}

func modelSerialize(nodes []api.Node) string {
	if !modelShaped(nodes) {
		return ""
	}
	return modelWrite(modelEvents(nodes))
}

func TestSerializeOfShortListsAgainstModel(t *testing.T) {
	var all []api.Node
	for depth := -1; depth <= 3; depth++ {
		all = append(all, api.Node{Depth: depth, Name: "pre"}, api.Node{Depth: depth, Name: "br"}, api.Node{Depth: depth, Text: "\n"}, api.Node{Depth: depth})
	}
	all = append(all, api.Node{Depth: 1, Name: "p", Text: "x"}, api.Node{Text: "x", Attrs: []api.Attr{{Name: "id"}}})
	var each func(nodes []api.Node, left int)
	each = func(nodes []api.Node, left int) {
		checkSerialize(t, nodes, modelSerialize(nodes))
		if left == 0 || t.Failed() {
			return
		}
		for _, n := range all {
			each(append(nodes[:len(nodes):len(nodes)], n), left-1)
		}
	}
	each(nil, 4)
}

// randomTree makes a shaped list.
func randomTree(random *rand.Rand) []api.Node {
	names := []string{"pre", "textarea", "p", "b", "br", "td", "A<"}
	texts := []string{"", "\n", "\nx", "x", "\"<&>\u00a0", "\xc2"}
	var nodes []api.Node
	deepest := 0
	for range random.Intn(14) {
		n := api.Node{Depth: deepest}
		if random.Intn(2) == 0 {
			n.Depth = random.Intn(deepest + 1)
		}
		deepest = n.Depth
		if random.Intn(3) == 0 {
			n.Text = texts[random.Intn(len(texts))]
		} else {
			n.Name = names[random.Intn(len(names))]
			if random.Intn(2) == 0 {
				n.Attrs = []api.Attr{{Name: "id", Value: texts[random.Intn(len(texts))]}}
			}
			if n.Name != "br" {
				deepest++
			}
		}
		nodes = append(nodes, n)
	}
	return nodes
}

func TestSerializeAgainstModel(t *testing.T) {
	random := rand.New(rand.NewSource(24))
	for range 40000 {
		nodes := randomTree(random)
		if !modelShaped(nodes) {
			t.Fatalf("%s is not shaped", eventtest.ShowNodes(nodes))
		}
		checkSerialize(t, nodes, modelSerialize(nodes))
		if len(nodes) > 0 {
			turned := &nodes[random.Intn(len(nodes))]
			turned.Depth += random.Intn(5) - 2
			checkSerialize(t, nodes, modelSerialize(nodes))
		}
		if t.Failed() {
			return
		}
	}
}

// A deep tree takes no longer than its length asks.
func TestSerializeOfDeepTree(t *testing.T) {
	nodes := make([]api.Node, 200000)
	for i := range nodes {
		nodes[i] = api.Node{Depth: i, Name: "b"}
	}
	checkText := strings.Repeat("<b>", len(nodes)) + strings.Repeat("</b>", len(nodes))
	if got := markup.Serialize(nodes); got != checkText {
		t.Errorf("Serialize gives %d bytes", len(got))
	}
}
