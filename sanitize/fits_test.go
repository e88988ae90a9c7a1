package sanitize_test

import (
	"math"
	"math/rand"
	"slices"
	"strings"
	"testing"

	"scrub/api"
	"scrub/eventtest"
	"scrub/markup"
	"scrub/sanitize"
)

// comesBack tells whether a list comes back as P6 asks.
func comesBack(p api.Policy, nodes []api.Node) bool {
	text := markup.Serialize(nodes)
	return sanitize.Clean(p, text) == api.Outcome{Out: text} && sameTree(text, nodes)
}

// checkFits looks at one answer, and at what P6 says of it.
func checkFits(t *testing.T, p api.Policy, nodes []api.Node, want bool) {
	t.Helper()
	if got := sanitize.Fits(p, nodes); got != want {
		t.Errorf("Fits(%v, %s) = %v", p, eventtest.ShowNodes(nodes), got)
	}
	if got := comesBack(p, nodes); got != want {
		t.Errorf("under %v %s comes back: %v", p, eventtest.ShowNodes(nodes), got)
	}
}

// checkAgrees is P6 alone.
func checkAgrees(t *testing.T, p api.Policy, nodes []api.Node) (fits bool) {
	t.Helper()
	fits = sanitize.Fits(p, nodes)
	if back := comesBack(p, nodes); fits != back {
		t.Fatalf("Fits(%v, %s) = %v, but it comes back: %v", p, eventtest.ShowNodes(nodes), fits, back)
	}
	return fits
}

func TestTreesThatFit(t *testing.T) {
	for _, short := range []string{
		"",
		"[x]",
		"[ ]",
		"[\n]",
		"<b>",
		"<br>",
		"<a href=u title=v>.[x]",
		"<a title=v href=u>",
		"<a href= title=>",
		"<a href=HTTPS:x>",
		"<a href=a:b title=javascript:x><a href=/a:b>",
		"<p>.[x].<br>.[y]<p>.[x][y]",
		"<pre>.[\nx]<textarea>.[\n]<textarea>",
		"<div>.<div>..<div>...<div>....<div>.....[x]",
		"<div>.<div>..<div>...<div>....<hr>....[x]",
		"<ul>.<li>..[x].<li>..<ol>...<li>....[ ]",
		"<ul><ol>",
		"<table><table>.<thead><table>.<tbody>..<tr>",
		"<table>.<tbody>..<tr>...<th>....[ ]...<td>....[y].<tfoot>",
		"<a>.[x]<a>.[y]<b>.<a>..[z].<a>",
		"<h1>.<b>..[x]<h2>.[y]",
		"<b>.<b>..<b>...[x]..[y].[z][w]",
		"[<&>\u00a0\"'\u20ac\ufffd]",
		"<img src=x alt=&lt;>",
	} {
		p := everything(5, 64)
		p.Schemes = append(p.Schemes, "a")
		checkFits(t, p, eventtest.ReadNodes(short), true)
	}
}

func TestTreesThatDoNotFit(t *testing.T) {
	p := everything(5, 64)
	p.Rules = slices.DeleteFunc(p.Rules, func(r api.Rule) bool { return r.Name == "u" || r.Name == "th" })
	p.Rules[0].Attrs = []string{"href", "title"}
	p.Drop = append(p.Drop, "th")
	for why, list := range map[string][]string{
		"not shaped":               {".[x]", ".<b>", "<b>..[x]", "<br>.[x]", "[x].[y]", "[x].<b>", "<b>.<br>..<br>"},
		"no rule":                  {"<u>", "<b>.<u>", "<foo>", "<script>", "<B>", "<svg>", "<table>.<tbody>..<tr>...<th>", "<\t>", "<b\x00>"},
		"too deep":                 {"<div>.<div>..<div>...<div>....<div>.....<br>", "<b>.<b>..<b>...<b>....<b>.....<b>"},
		"where it may not stand":   {"<p>.<div>", "<b>.<p>", "<ul>.<b>", "<ul>.<ul>", "<table>.<tr>", "<table>.<tbody>..<td>", "<table>.<tbody>..<tr>...<tr>", "<textarea>.<b>", "<textarea>.<br>", "<p>.<hr>"},
		"no root's":                {"<li>", "<tbody>", "<tr>", "<td>", "<div>.<li>", "<div>.<td>", "<ul>.<li>..<li>"},
		"an a in an a":             {"<a>.<a>", "<a>.<b>..<a>", "<a>.<b>..<i>...[x]..<a>"},
		"an attribute not listed":  {"<a id=x>", "<a href=u class=x>", "<b onclick=x>", "<b ID=x>", "<b =x>", "<b style=x>"},
		"an attribute twice":       {"<b id=x id=y>", "<b id=x lang=y id=x>", "<a href=u href=u>"},
		"a value that is not good": {"<b title=\x00>", "<b title=x\r>", "<b title=\x7f>", "<b title=\xff>", "<b title=\ufdd0>", "<b title=\xc2>", "<b title=\u0085>"},
		"a link that is changed":   {"<a href=\tx>", "<a href=x\n>", "<a href=a\fb>", "<a href=ht\ntp:x>"},
		"a link that may not stay": {"<a href=javascript:x>", "<a href=no:x>", "<img src=:>", "<q cite=data:x>", "<a href=HTTPX:x>"},
		"a start tag that is long": {"<a href=" + strings.Repeat("x", 54) + ">", "<a href=" + strings.Repeat("<", 14) + ">", "<b title=" + strings.Repeat("\"", 9) + ">"},
		"an empty text":            {"[]", "<b>.[]", "[x]<b>[]"},
		"a text that is not good":  {"[\x00]", "[x\r]", "[\r\n]", "[\x7f]", "[\xff]", "[\ufffe]", "[\xe2\x82]", "[\u0080]", "[\xed\xa0\x80]"},
		"a text where it may not":  {"<ul>.[ ]", "<ul>.[x]", "<table>.[x]", "<table>.[\n]", "<table>.<tbody>..[x]", "<table>.<tbody>..<tr>...[ ]"},
		"two texts side by side":   {"[x][y]", "<b>.[x].[y]", "<b>[x][ ]", "<br>[x]<br>[y][z]", "<b>.[x][y][z]"},
	} {
		for _, short := range list {
			if checkFits(t, p, eventtest.ReadNodes(short), false); t.Failed() {
				t.Fatal(why)
			}
		}
	}
	spaced := []api.Node{{Name: "a", Attrs: []api.Attr{{Name: "href", Value: " x"}}}}
	checkFits(t, p, spaced, false)
	spaced[0].Attrs[0].Value = "x y"
	checkFits(t, p, spaced, true)
}

// The edges of what fits: as deep and as long as may be.
func TestEdgesOfFitting(t *testing.T) {
	for depth := 1; depth <= 256; depth++ {
		var nodes []api.Node
		for at := range depth {
			nodes = append(nodes, api.Node{Depth: at, Name: "b"})
		}
		nodes = append(nodes, api.Node{Depth: depth, Text: "x"})
		checkFits(t, everything(depth, 32), nodes, true)
		nodes[depth] = api.Node{Depth: depth, Name: "br"}
		checkFits(t, everything(depth, 32), nodes, false)
		if t.Failed() {
			return
		}
	}
	for sign, size := range map[string]int{"x": 1, "\u20ac": 3, "&": 5, "<": 4, ">": 4, "\"": 6, "\u00a0": 6, "'": 1} {
		for _, window := range []int{32, 33, 4096} {
			count := (window - len(`<b title="">`)) / size
			p := everything(1, window)
			node := api.Node{Name: "b", Attrs: []api.Attr{{Name: "title", Value: strings.Repeat(sign, count)}}}
			checkFits(t, p, []api.Node{node}, true)
			node.Attrs[0].Value += sign
			checkFits(t, p, []api.Node{node}, false)
		}
	}
}

// What has no meaning in a node makes a list that is not shaped.
func TestFieldsThatShapeForbids(t *testing.T) {
	p := everything(5, 64)
	b, attrs := api.Node{Name: "b"}, []api.Attr{{Name: "id"}}
	for _, nodes := range [][]api.Node{
		{{Name: "b", Text: "x"}},
		{{Name: "br", Text: "x"}},
		{{Text: "x", Attrs: attrs}},
		{{Depth: -1, Name: "b"}},
		{{Depth: -1, Text: "x"}},
		{{Depth: math.MinInt, Name: "b"}},
		{{Depth: math.MaxInt, Name: "b"}},
		{b, {Depth: -1, Name: "b"}},
		{b, {Depth: math.MinInt, Text: "x"}},
		{b, {Depth: math.MaxInt, Text: "x"}},
		{b, {Depth: 2, Name: "b"}},
	} {
		checkFits(t, p, nodes, false)
	}
	checkFits(t, p, []api.Node{{Text: "x", Attrs: []api.Attr{}}}, true)
	checkFits(t, p, []api.Node{}, true)
}

// Each short list of nodes, shaped or not.
func TestShortListsFitAsTheyComeBack(t *testing.T) {
	p := everything(2, 32)
	p.Rules = slices.DeleteFunc(p.Rules, func(r api.Rule) bool { return r.Name == "u" })
	var all []api.Node
	for _, one := range eventtest.ReadNodes("[x][ ][\n][][\r]<a href=u><b><u><br><pre><textarea><p><div><ul><li><table><tbody><tr><td>") {
		for depth := -1; depth <= 2; depth++ {
			one.Depth = depth
			all = append(all, one)
		}
	}
	fitting := 0
	var each func(nodes []api.Node, left int)
	each = func(nodes []api.Node, left int) {
		if checkAgrees(t, p, nodes) {
			fitting++
		}
		if left == 0 {
			return
		}
		for _, one := range all {
			each(append(nodes[:len(nodes):len(nodes)], one), left-1)
		}
	}
	each(nil, 2)
	each(eventtest.ReadNodes("<div>.<p>"), 1)
	each(eventtest.ReadNodes("<ul>.<li>"), 1)
	p.Depth = 6
	each(eventtest.ReadNodes("<table>.<tbody>..<tr>...<td>....<a>.....<b>"), 1)
	if fitting < 100 {
		t.Errorf("%d lists fit", fitting)
	}
}

// spoilNode turns one thing in a tree.
func spoilNode(random *rand.Rand, nodes []api.Node) {
	n := &nodes[random.Intn(len(nodes))]
	switch random.Intn(6) {
	case 0:
		n.Depth += random.Intn(3) - 1
	case 1:
		n.Name = pick(random, nameSets[0])
	case 2:
		n.Text = pick(random, []string{"", "x", " ", "\n", "\r", "\x00", "\xff", "\u00a0"})
	case 3:
		if len(n.Attrs) > 0 {
			n.Attrs[random.Intn(len(n.Attrs))].Value = pick(random, values)
		}
	case 4:
		n.Attrs = append(n.Attrs, api.Attr{Name: pick(random, strings.Fields(allAttributes+" onclick")), Value: pick(random, values)})
	case 5:
		*n = nodes[random.Intn(len(nodes))]
		n.Attrs = slices.Clone(n.Attrs)
	}
}

func TestRandomTreesFitAsTheyComeBack(t *testing.T) {
	random := rand.New(rand.NewSource(44))
	fitting, others := 0, 0
	for i := range 20000 {
		p := randomPolicy(random)
		nodes := markup.Parse(sanitize.Clean(p, randomInput(random, nameSets[i%len(nameSets)])).Out).Nodes
		if len(nodes) == 0 {
			continue
		}
		if random.Intn(4) == 0 {
			// Under another policy some of it may not stay.
			p = randomPolicy(random)
		}
		for range random.Intn(3) {
			spoilNode(random, nodes)
		}
		if checkAgrees(t, p, nodes) {
			fitting++
		} else {
			others++
		}
	}
	if fitting < 3000 || others < 3000 {
		t.Errorf("%d trees fit and %d do not", fitting, others)
	}
}

// A long list takes no longer than its length asks.
func TestFitsOfLongLists(t *testing.T) {
	p := everything(5, 64)
	nodes := slices.Repeat(eventtest.ReadNodes("<ul>.<li>..<a href=u>...[x]..[y]<br>"), 100000)
	if !sanitize.Fits(p, nodes) {
		t.Error("a long list does not fit")
	}
	attrs := slices.Repeat([]api.Attr{{Name: "id"}, {Name: "onclick"}}, 300000)
	if sanitize.Fits(p, []api.Node{{Name: "b", Attrs: attrs}}) {
		t.Error("an element of many attributes fits")
	}
}
