package sanitize_test

import (
	"strings"
	"testing"

	"scrub/api"
	"scrub/balance"
	"scrub/chars"
	"scrub/eventtest"
	"scrub/lexer"
	"scrub/markup"
	"scrub/policy"
	"scrub/sanitize"
	"scrub/stream"
)

// base is the policy of the examples in 9.2.
func base() api.Policy {
	p := api.Policy{Schemes: []string{"http"}, Drop: []string{"svg"}, Depth: 6, Window: 64}
	p.Rules = append(p.Rules, api.Rule{Name: "a", Attrs: []string{"href", "title"}})
	for _, name := range strings.Fields("b p pre table tbody tr td") {
		p.Rules = append(p.Rules, api.Rule{Name: name})
	}
	return p
}

const (
	allNames = "a b code em i q s small span strong sub sup u br img textarea h1 h2 h3 h4 h5 h6 p pre blockquote div hr ol ul " +
		"table li tbody tfoot thead tr td th"
	allAttributes = "alt cite class colspan dir height href id lang rel rowspan src start title width"
)

// everything is a policy that allows all that can be allowed.
func everything(depth, window int) api.Policy {
	p := api.Policy{Schemes: []string{"http", "https"}, Drop: []string{"svg", "template"}, Depth: depth, Window: window}
	for _, name := range strings.Fields(allNames) {
		p.Rules = append(p.Rules, api.Rule{Name: name, Attrs: strings.Fields(allAttributes)})
	}
	return p
}

// readEvents is the lexer's events of 9.2, of an input that ends or that a read
// breaks off.
func readEvents(window int, prefix string, broken bool) []api.Event {
	if !broken {
		return lexer.Lex(window, chars.Normal(prefix))
	}
	_, text := chars.Pour(api.Pull{}, prefix)
	state, events := lexer.Feed(window, api.Lexer{}, text)
	var all stream.Stream
	all.Put(events...)
	all.Put(lexer.Finish(window, state, true)...)
	return all.Events()
}

// meant is the events that the full output of 9.2 writes.
func meant(p api.Policy, prefix string, broken bool) []api.Event {
	return balance.Balance(p.Depth, policy.Filter(p, readEvents(p.Window, prefix, broken)))
}

// fullOutput is the full output of 9.2.
func fullOutput(p api.Policy, prefix string, broken bool) string {
	return markup.Write(meant(p, prefix, broken))
}

// noLimit is a sink that takes everything.
var noLimit = api.Sink{Limit: -1}

func checkRun(t *testing.T, p api.Policy, script []api.Read, sink api.Sink, want api.Outcome) {
	t.Helper()
	if got := sanitize.Run(p, script, sink); got != want {
		t.Fatalf("Run(%v, %#v, %v) = %#v, want %#v", p, script, sink, got, want)
	}
}

func checkClean(t *testing.T, p api.Policy, input, want string) {
	t.Helper()
	if got := sanitize.Clean(p, input); got != (api.Outcome{Out: want}) {
		t.Fatalf("Clean(%v, %q) = %#v, want %q", p, input, got, want)
	}
}

// examples are the examples of 9.2 without a failed read.
var examples = []struct{ in, out string }{
	{"a < b & c", "a &lt; b &amp; c"},
	{"<B>x</B><script>y</script><foo>z</foo>", "<b>x</b>z"},
	{"<a href=' HTTP://x ' onclick=y title=t>k", `<a href="HTTP://x" title="t">k</a>`},
	{`<a href="java&Tab;script:x">k`, "<a>k</a>"},
	{"<svg><p>x</svg>y<!-- c -->", "y"},
	{"<p>x<p>y<table>z", "<p>x</p><p>y</p><table><tbody><tr><td>z</td></tr></tbody></table>"},
	{`x<a href="`, "x"},
}

func TestExamples(t *testing.T) {
	for _, c := range examples {
		checkClean(t, base(), c.in, c.out)
		checkRun(t, base(), []api.Read{{Data: c.in}}, noLimit, api.Outcome{Out: c.out})
	}
	checkRun(t, base(), []api.Read{{Data: "x<b"}, {Err: 5}}, noLimit, api.Outcome{Out: "x", Code: api.CodeRead, Err: 5})
	checkRun(t, base(), []api.Read{{Data: "x<b", Err: 5}}, noLimit, api.Outcome{Out: "x", Code: api.CodeRead, Err: 5})
}

func TestClean(t *testing.T) {
	for _, c := range []struct{ in, out string }{
		{"", ""},
		{"x", "x"},
		{"\xff\r\n\x00\r", "\ufffd\n\ufffd\n"},
		{"&lt;&#38;&nbsp;\u00a0&quot;&amp", "&lt;&amp;&nbsp;&nbsp;\"&amp;"},
		{"<b class=x>y", "<b>y</b>"},
		{"</b></p>x</foo>", "x"},
		{"<pre>\n\nx", "<pre>\n\nx</pre>"},
		{"<pre>\nx", "<pre>x</pre>"},
		{"<pre><i>\n</i>x", "<pre>\n\nx</pre>"},
		{"<script>x", ""},
		{"<style>x</style>y<title>z</title>", "y"},
		{"<plaintext><b>x</b>", ""},
		{"<textarea><b>x</b></textarea>y", "&lt;b&gt;x&lt;/b&gt;y"},
		{"<!doctype html><?x?></>y", "y"},
		{"<svg><svg></svg>x</svg>y", "y"},
		{"<svg>x", ""},
		{"<table><tr><td>x</table>y", "<table><tbody><tr><td>x</td></tr></tbody></table>y"},
		{"<table> <tr> <td> x", "<table><tbody><tr><td> x</td></tr></tbody></table>"},
		{"<td>x</td>", "x"},
		{"<p><b><table>x", "<p><b></b></p><table><tbody><tr><td>x</td></tr></tbody></table>"},
		{"<a>x<a>y", "<a>x</a><a>y</a>"},
		{"<b>" + strings.Repeat("<b>", 9) + "x", strings.Repeat("<b>", 6) + "x" + strings.Repeat("</b>", 6)},
		// A tag may have 64 bytes as it is read and as it is written.
		{"<a title=" + strings.Repeat("x", 52) + ">y", `<a title="` + strings.Repeat("x", 52) + `">y</a>`},
		{"<a title=" + strings.Repeat("x", 53) + ">y", "y"},
		{"<a title='" + strings.Repeat("<", 13) + "'>y", `<a title="` + strings.Repeat("&lt;", 13) + `">y</a>`},
		{"<a title='" + strings.Repeat("<", 14) + "'>y", "y"},
		{"<a" + strings.Repeat(" ", 61) + ">y", "<a>y</a>"},
		{"<a" + strings.Repeat(" ", 62) + ">y", "y"},
	} {
		checkClean(t, base(), c.in, c.out)
		checkOutput(t, base(), c.in, false, c.out)
	}
}

// sameTree tells whether a text is read as a tree.
func sameTree(text string, tree []api.Node) bool {
	read := markup.Parse(text)
	return read.Verdict == api.Accepted && eventtest.SameNodes(read.Nodes, tree)
}
