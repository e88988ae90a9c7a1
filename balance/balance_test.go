package balance_test

import (
	"math"
	"strings"
	"testing"

	"scrub/api"
	"scrub/balance"
	"scrub/eventtest"
)

// checkBalance looks at one answer, and that it stays as it is.
func checkBalance(t *testing.T, depth int, in, out string) {
	t.Helper()
	want := eventtest.Read(out)
	if got := balance.Balance(depth, eventtest.Read(in)); !eventtest.Same(got, want) {
		t.Errorf("Balance(%d, %s) = %s, want %s", depth, in, eventtest.Show(got), out)
	}
	if got := balance.Balance(depth, want); !eventtest.Same(got, want) {
		t.Errorf("Balance(%d, %s) = %s, want the same", depth, out, eventtest.Show(got))
	}
}

// Each row holds what is open, and what a thing of each column gives in there.
func TestEveryRowAndColumn(t *testing.T) {
	things := []string{"<p>", "<b>", "[x]", "<li>", "<tfoot>", "<tr>", "<th>"}
	for _, row := range [][]string{
		{"", // the root
			"<p></p>", "<b></b>", "[x]", "", "", "", ""},
		{"<div>",
			"<div><p></p></div>", "<div><b></b></div>", "<div>[x]</div>",
			"<div></div>", "<div></div>", "<div></div>", "<div></div>"},
		{"<ul><li>",
			"<ul><li><p></p></li></ul>", "<ul><li><b></b></li></ul>", "<ul><li>[x]</li></ul>",
			"<ul><li></li><li></li></ul>", "<ul><li></li></ul>", "<ul><li></li></ul>", "<ul><li></li></ul>"},
		{"<pre>",
			"<pre></pre><p></p>", "<pre><b></b></pre>", "<pre>[x]</pre>",
			"<pre></pre>", "<pre></pre>", "<pre></pre>", "<pre></pre>"},
		{"<div><h1><b>",
			"<div><h1><b></b></h1><p></p></div>", "<div><h1><b><b></b></b></h1></div>", "<div><h1><b>[x]</b></h1></div>",
			"<div><h1><b></b></h1></div>", "<div><h1><b></b></h1></div>", "<div><h1><b></b></h1></div>", "<div><h1><b></b></h1></div>"},
		{"<p><textarea>",
			"<p><textarea></textarea></p><p></p>", "<p><textarea></textarea><b></b></p>", "<p><textarea>[x]</textarea></p>",
			"<p><textarea></textarea></p>", "<p><textarea></textarea></p>", "<p><textarea></textarea></p>", "<p><textarea></textarea></p>"},
		{"<ol>",
			"<ol><li><p></p></li></ol>", "<ol><li><b></b></li></ol>", "<ol><li>[x]</li></ol>",
			"<ol><li></li></ol>", "<ol></ol>", "<ol></ol>", "<ol></ol>"},
		{"<table>",
			"<table><tbody><tr><td><p></p></td></tr></tbody></table>", "<table><tbody><tr><td><b></b></td></tr></tbody></table>",
			"<table><tbody><tr><td>[x]</td></tr></tbody></table>", "<table></table>", "<table><tfoot></tfoot></table>",
			"<table><tbody><tr></tr></tbody></table>", "<table><tbody><tr><th></th></tr></tbody></table>"},
		{"<table><thead>",
			"<table><thead><tr><td><p></p></td></tr></thead></table>", "<table><thead><tr><td><b></b></td></tr></thead></table>",
			"<table><thead><tr><td>[x]</td></tr></thead></table>", "<table><thead></thead></table>",
			"<table><thead></thead><tfoot></tfoot></table>", "<table><thead><tr></tr></thead></table>",
			"<table><thead><tr><th></th></tr></thead></table>"},
		{"<table><tbody><tr>",
			"<table><tbody><tr><td><p></p></td></tr></tbody></table>", "<table><tbody><tr><td><b></b></td></tr></tbody></table>",
			"<table><tbody><tr><td>[x]</td></tr></tbody></table>", "<table><tbody><tr></tr></tbody></table>",
			"<table><tbody><tr></tr></tbody><tfoot></tfoot></table>", "<table><tbody><tr></tr><tr></tr></tbody></table>",
			"<table><tbody><tr><th></th></tr></tbody></table>"},
		{"<table><tbody><tr><td>",
			"<table><tbody><tr><td><p></p></td></tr></tbody></table>", "<table><tbody><tr><td><b></b></td></tr></tbody></table>",
			"<table><tbody><tr><td>[x]</td></tr></tbody></table>", "<table><tbody><tr><td></td></tr></tbody></table>",
			"<table><tbody><tr><td></td></tr></tbody><tfoot></tfoot></table>", "<table><tbody><tr><td></td></tr><tr></tr></tbody></table>",
			"<table><tbody><tr><td></td><th></th></tr></tbody></table>"},
	} {
		for i, thing := range things {
			checkBalance(t, 9, row[0]+thing, row[i+1])
			checkBalance(t, 256, row[0]+thing, row[i+1])
		}
	}
}

func TestStarts(t *testing.T) {
	for _, c := range []struct{ in, out string }{
		{"", ""},
		{"<b>[x]", "<b>[x]</b>"},
		{"<p>[x]<p>[y]", "<p>[x]</p><p>[y]</p>"},
		{"<p><b><i>[x]<div>[y]", "<p><b><i>[x]</i></b></p><div>[y]</div>"},
		{"<h1>[x]<h2>[y]", "<h1>[x]</h1><h2>[y]</h2>"},
		{"<b><p>[x]</b>", "<b></b><p>[x]</p>"},
		{"<textarea><b>[x]</textarea>", "<textarea></textarea><b>[x]</b>"},
		{"<b a=1 a=2 onclick=z>", "<b a=1 a=2 onclick=z></b>"},
		{"<ul id=1><b id=2>", "<ul id=1><li><b id=2></b></li></ul>"},
		// unknown names
		{"<foo>[x]</foo><B>[y]</B><>[z]</>", "[xyz]"},
		{"<script>[x]</script><TD><svg>", "[x]"},
		// a in a
		{"<a>[x]<a>[y]", "<a>[x]</a><a>[y]</a>"},
		{"<a><b><i>[x]<a k=v>[y]</b>", "<a><b><i>[x]</i></b></a><a k=v>[y]</a>"},
		{"<p><b><a><i>[x]<a>[y]", "<p><b><a><i>[x]</i></a><a>[y]</a></b></p>"},
		{"<a>[x]</a><a>[y]</a>", "<a>[x]</a><a>[y]</a>"},
		{"<b><a></b><a>[x]", "<b><a></a></b><a>[x]</a>"},
		{"<ul><a><a>[x]", "<ul><li><a></a><a>[x]</a></li></ul>"},
		{"<a><textarea><a>[x]", "<a><textarea></textarea></a><a>[x]</a>"},
		{"<a><table><td><a>[x]", "<a></a><table><tbody><tr><td><a>[x]</a></td></tr></tbody></table>"},
		{"<a><br><a><img src=s>", "<a><br></a><a><img src=s></a>"},
		// void elements
		{"<br><hr><img src=s>[x]", "<br><hr><img src=s>[x]"},
		{"<p>[x]<br>[y]<hr>[z]", "<p>[x]<br>[y]</p><hr>[z]"},
		{"<ul><br><hr>", "<ul><li><br><hr></li></ul>"},
		{"<table><hr>", "<table><tbody><tr><td><hr></td></tr></tbody></table>"},
		{"<table><tr><img>", "<table><tbody><tr><td><img></td></tr></tbody></table>"},
		{"<textarea><br>[x]", "<textarea></textarea><br>[x]"},
		// lists and tables
		{"<ul>[x]<li>[y]<li>[z]", "<ul><li>[x]</li><li>[y]</li><li>[z]</li></ul>"},
		{"<ul><ul>[x]", "<ul><li><ul><li>[x]</li></ul></li></ul>"},
		{"<ul><li><p><b><li>[x]", "<ul><li><p><b></b></p></li><li>[x]</li></ul>"},
		{"<ul><li><blockquote><li>[x]", "<ul><li><blockquote></blockquote></li><li>[x]</li></ul>"},
		{"<li>[x]<li>[y]", "[xy]"},
		{"<ul><li><table><li>[x]", "<ul><li><table><tbody><tr><td>[x]</td></tr></tbody></table></li></ul>"},
		{"<table><td><ul><li>[x]<td>[y]", "<table><tbody><tr><td><ul><li>[x]</li></ul></td><td>[y]</td></tr></tbody></table>"},
		{"<table><td><b><li>[x]", "<table><tbody><tr><td><b>[x]</b></td></tr></tbody></table>"},
		{"<table><td><table><tr><td>[x]<tbody>[y]",
			"<table><tbody><tr><td><table><tbody><tr><td>[x]</td></tr></tbody><tbody><tr><td>[y]</td></tr></tbody></table></td></tr></tbody></table>"},
		{"<table><thead><tfoot><tbody><tr><th><tr>",
			"<table><thead></thead><tfoot></tfoot><tbody><tr><th></th></tr><tr></tr></tbody></table>"},
		{"<table><table>[x]",
			"<table><tbody><tr><td><table><tbody><tr><td>[x]</td></tr></tbody></table></td></tr></tbody></table>"},
		{"<div><tr><td>[x]<tbody>", "<div>[x]</div>"},
		{"<td>", ""},
		{"<table><td>", "<table><tbody><tr><td></td></tr></tbody></table>"},
	} {
		checkBalance(t, 10, c.in, c.out)
	}
}

func TestEnds(t *testing.T) {
	for _, c := range []struct{ in, out string }{
		{"</b>", ""},
		{"[x]</b>[y]</p>[z]", "[xyz]"},
		{"<b>[x]</i>[y]</b>", "<b>[xy]</b>"},
		{"<b><i>[x]</b>[y]</i>", "<b><i>[x]</i></b>[y]"},
		{"<b><b>[x]</b>[y]", "<b><b>[x]</b>[y]</b>"},
		{"<div><p><b>[x]</div>[y]", "<div><p><b>[x]</b></p></div>[y]"},
		{"<b>[x]</B></>[y]", "<b>[xy]</b>"},
		{"<p><br></br></p>[x]", "<p><br></p>[x]"},
		{"<hr></hr></img>[x]", "<hr>[x]"},
		{"<b>[x]<div>[y]</b>[z]", "<b>[x]</b><div>[yz]</div>"},
		// walls of li
		{"<ul><li><div><b>[x]</li>[y]", "<ul><li><div><b>[x]</b></div></li><li>[y]</li></ul>"},
		{"<ul><li><ul></li>[x]", "<ul><li><ul><li>[x]</li></ul></li></ul>"},
		{"<ul><li><ol></li>[x]", "<ul><li><ol><li>[x]</li></ol></li></ul>"},
		{"<ul><li><ul><li>[x]</li>[y]</li></ul></li>", "<ul><li><ul><li>[x]</li><li>[y]</li></ul></li></ul>"},
		{"<ul><li><table></li>[x]", "<ul><li><table><tbody><tr><td>[x]</td></tr></tbody></table></li></ul>"},
		{"<ul><li><table><td></li>[x]", "<ul><li><table><tbody><tr><td>[x]</td></tr></tbody></table></li></ul>"},
		// walls of the parts of tables, and the table without a wall
		{"<table><td>[x]</tr>[y]", "<table><tbody><tr><td>[x]</td></tr><tr><td>[y]</td></tr></tbody></table>"},
		{"<table><td>[x]</tbody>[y]", "<table><tbody><tr><td>[x]</td></tr></tbody><tbody><tr><td>[y]</td></tr></tbody></table>"},
		{"<table><td><b>[x]</th>[y]</td>[z]", "<table><tbody><tr><td><b>[xy]</b></td><td>[z]</td></tr></tbody></table>"},
		{"<table><td><ul><li>[x]</td>", "<table><tbody><tr><td><ul><li>[x]</li></ul></td></tr></tbody></table>"},
		{"<table><td><table></td></tr></tbody>[x]",
			"<table><tbody><tr><td><table><tbody><tr><td>[x]</td></tr></tbody></table></td></tr></tbody></table>"},
		{"<table><th><table><td></th>[x]",
			"<table><tbody><tr><th><table><tbody><tr><td>[x]</td></tr></tbody></table></th></tr></tbody></table>"},
		{"<table><thead><td><table><td>[x]</thead>[y]",
			"<table><thead><tr><td><table><tbody><tr><td>[xy]</td></tr></tbody></table></td></tr></thead></table>"},
		{"<table><td><div><b>[x]</table>[y]", "<table><tbody><tr><td><div><b>[x]</b></div></td></tr></tbody></table>[y]"},
		{"<table><td><table><td>[x]</table>[y]</table>[z]",
			"<table><tbody><tr><td><table><tbody><tr><td>[x]</td></tr></tbody></table>[y]</td></tr></tbody></table>[z]"},
		// walls of any other name
		{"<div><table></div>[x]", "<div><table><tbody><tr><td>[x]</td></tr></tbody></table></div>"},
		{"<div><table><thead></div>[x]", "<div><table><thead><tr><td>[x]</td></tr></thead></table></div>"},
		{"<div><table><tr></div>[x]", "<div><table><tbody><tr><td>[x]</td></tr></tbody></table></div>"},
		{"<div><table><th></div>[x]", "<div><table><tbody><tr><th>[x]</th></tr></tbody></table></div>"},
		{"<ul><li><table><td></ul>[x]", "<ul><li><table><tbody><tr><td>[x]</td></tr></tbody></table></li></ul>"},
		{"<div><ul><li>[x]</div>[y]", "<div><ul><li>[x]</li></ul></div>[y]"},
		{"<ol><li><ul>[x]</ol>[y]", "<ol><li><ul><li>[x]</li></ul></li></ol>[y]"},
		{"<div><ul></p></div>[x]", "<div><ul></ul></div>[x]"},
		{"<table><td><b><p>[x]</b>[y]", "<table><tbody><tr><td><b></b><p>[xy]</p></td></tr></tbody></table>"},
	} {
		checkBalance(t, 10, c.in, c.out)
	}
}

func TestTexts(t *testing.T) {
	for _, c := range []struct{ in, out string }{
		{"[]", ""},
		{"[x][][y]", "[xy]"},
		{"[ ]", "[ ]"},
		{"[\t\n]<b>[ ]", "[\t\n]<b>[ ]</b>"},
		{"<ul>[]<li>[]", "<ul><li></li></ul>"},
		{"<ul>[ \t\n\f\r]<li>[ ]", "<ul><li>[ ]</li></ul>"},
		{"<ul>[ \t\n\f\rx \t]", "<ul><li>[x \t]</li></ul>"},
		{"<ul>[\x0bx]", "<ul><li>[\x0bx]</li></ul>"},
		{"<ul>[\u00a0]", "<ul><li>[\u00a0]</li></ul>"},
		{"<ul>[ ][ ][x][ ][ y]", "<ul><li>[x  y]</li></ul>"},
		{"<ul>[ ]</li>[x]", "<ul><li>[x]</li></ul>"},
		{"<ul><li>[x]</li>[ ]<li>[y]</li>[ ]", "<ul><li>[x]</li><li>[y]</li></ul>"},
		{"<table>[ ]<thead>[ ]<tr>[ ]<td>[ ]</td>[ ]</tr>[ ]</thead>[ ]</table>[ ]",
			"<table><thead><tr><td>[ ]</td></tr></thead></table>[ ]"},
		{"<table><tr>[\n x ]", "<table><tbody><tr><td>[x ]</td></tr></tbody></table>"},
		{"[x]<foo>[y]</p>?[z]<li>[]</foo>[w]", "[xyzw]"},
		{"[x]<br>[y][z]", "[x]<br>[yz]"},
		{"<textarea>[ <b>][&]", "<textarea>[ <b>&]</textarea>"},
	} {
		checkBalance(t, 10, c.in, c.out)
	}
}

func TestDepthCap(t *testing.T) {
	for _, c := range []struct {
		depth   int
		in, out string
	}{
		{1, "<div><div>[x]</div>[y]", "<div>[x]</div>[y]"},
		{1, "<b><br>[x]</b><br>", "<b>[x]</b><br>"},
		{2, "<b><br>[x]</b>", "<b><br>[x]</b>"},
		{1, "<p>[x]<p>[y]", "<p>[x]</p><p>[y]</p>"},
		{1, "<p>[x]<hr>[y]", "<p>[x]</p><hr>[y]"},
		{2, "<div><p>[x]<b>[y]<p>[z]", "<div><p>[xy]</p><p>[z]</p></div>"},
		{1, "<a>[x]<b>[y]<a>[z]", "<a>[xy]</a><a>[z]</a>"},
		{2, "<b><a><a>[x]<i>[y]", "<b><a></a><a>[xy]</a></b>"},
		// texts with implied elements
		{1, "<ul>[x]", "<ul></ul>"},
		{2, "<ul>[x]", "<ul><li>[x]</li></ul>"},
		{3, "<table>[x]", "<table></table>"},
		{4, "<table>[x]", "<table><tbody><tr><td>[x]</td></tr></tbody></table>"},
		{3, "<table><tfoot>[x]", "<table><tfoot></tfoot></table>"},
		{4, "<table><tfoot>[x]", "<table><tfoot><tr><td>[x]</td></tr></tfoot></table>"},
		{3, "<table><tr>[x]", "<table><tbody><tr></tr></tbody></table>"},
		{4, "<table><tr>[x]", "<table><tbody><tr><td>[x]</td></tr></tbody></table>"},
		// elements with implied elements
		{2, "<ul><b>[x]", "<ul><li>[x]</li></ul>"},
		{3, "<ul><b>[x]", "<ul><li><b>[x]</b></li></ul>"},
		{2, "<ul><br><li>", "<ul><li></li></ul>"},
		{3, "<ul><br><li>", "<ul><li><br></li><li></li></ul>"},
		{4, "<table><b><br>[x]", "<table><tbody><tr><td>[x]</td></tr></tbody></table>"},
		{5, "<table><br><b>[x]", "<table><tbody><tr><td><br><b>[x]</b></td></tr></tbody></table>"},
		{3, "<table><td><tr>", "<table><tbody><tr></tr></tbody></table>"},
		{4, "<table><td><tr>", "<table><tbody><tr><td></td></tr><tr></tr></tbody></table>"},
		{2, "<table><td><tr><tbody>", "<table><tbody></tbody></table>"},
		{1, "<table><td><tr><tbody>[x]", "<table></table>"},
		{3, "<table><thead><th><tr>", "<table><thead><tr></tr></thead></table>"},
		{4, "<table><thead><b><th>[x]", "<table><thead><tr><th>[x]</th></tr></thead></table>"},
		{5, "<table><tr><b>[x]", "<table><tbody><tr><td><b>[x]</b></td></tr></tbody></table>"},
		{4, "<table><tr><b>[x]", "<table><tbody><tr><td>[x]</td></tr></tbody></table>"},
		// what does not fit, or has no place, closes nothing
		{2, "<div><b><i>[x]</b>[y]", "<div><b>[x]</b>[y]</div>"},
		{3, "<p><b><i><u>[x]</u>[y]</i>[z]", "<p><b><i>[xy]</i>[z]</b></p>"},
		{9, "<p><b><td>[x]<li>[y]", "<p><b>[xy]</b></p>"},
		{9, "<table><td><p><b>[x]<li>[y]", "<table><tbody><tr><td><p><b>[xy]</b></p></td></tr></tbody></table>"},
		{4, "<table><td><b><li>[x]", "<table><tbody><tr><td>[x]</td></tr></tbody></table>"},
		// what is closed makes room
		{2, "<ul><li>[x]<b><li>[y]", "<ul><li>[x]</li><li>[y]</li></ul>"},
		{3, "<div><div><p>[x]<div>[y]", "<div><div><p>[x]</p><div>[y]</div></div></div>"},
	} {
		checkBalance(t, c.depth, c.in, c.out)
	}
}

func TestEveryDepth(t *testing.T) {
	for depth := 1; depth <= 256; depth++ {
		in := strings.Repeat("<div>", 300) + "[x]" + strings.Repeat("</div>", depth) + "[y]</div>"
		checkBalance(t, depth, in, strings.Repeat("<div>", depth)+"[x]"+strings.Repeat("</div>", depth)+"[y]")
		checkBalance(t, depth, strings.Repeat("<i>", 300)+"<br>", strings.Repeat("<i>", depth)+strings.Repeat("</i>", depth))
		// Each ul but the first takes an li along: at an even depth the last place stays free.
		pairs := (depth - 1) / 2
		checkBalance(t, depth, strings.Repeat("<ul>", 300), strings.Repeat("<ul><li>", pairs)+"<ul></ul>"+strings.Repeat("</li></ul>", pairs))
		if t.Failed() {
			return
		}
	}
	for _, depth := range []int{math.MinInt, -1, 0, 257, 258, math.MaxInt} {
		if got := balance.Balance(depth, eventtest.Read("[x]<b>[y]</b>")); len(got) != 0 {
			t.Errorf("Balance(%d) = %s", depth, eventtest.Show(got))
		}
	}
}

func TestEventsOfNoKind(t *testing.T) {
	for _, kind := range []int{math.MinInt, -1, 0, 4, 9, math.MaxInt} {
		none := api.Event{Kind: kind, Name: "b", Attrs: []api.Attr{{Name: "id"}}, Text: "n"}
		events := eventtest.Read("[x]<b>[y]</b>")
		in := []api.Event{none, events[0], none, events[1], none, events[2], none, events[3], none}
		if got := balance.Balance(5, in); !eventtest.Same(got, events) {
			t.Errorf("kind %d: %s", kind, eventtest.Show(got))
		}
	}
}

// A field that has no meaning is not looked at, and is zero in the answer.
func TestFieldsWithoutMeaning(t *testing.T) {
	attrs := []api.Attr{{Name: "id", Value: "v"}}
	in := []api.Event{
		{Kind: api.KindStart, Name: "b", Attrs: attrs, Text: "t"},
		{Kind: api.KindText, Name: "p", Attrs: attrs, Text: "x"},
		{Kind: api.KindStart, Name: "br", Text: "t"},
		{Kind: api.KindEnd, Name: "b", Attrs: attrs, Text: "t"},
		{Kind: api.KindStart, Name: "ul", Attrs: attrs, Text: "t"},
		{Kind: api.KindText, Name: "p", Attrs: attrs, Text: "x"},
	}
	want := eventtest.Read("<b id=v>[x]<br></b><ul id=v><li>[x]</li></ul>")
	if got := balance.Balance(5, in); !eventtest.Same(got, want) {
		t.Errorf("%#v", got)
	}
}
