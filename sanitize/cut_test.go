package sanitize_test

import (
	"math/rand"
	"strings"
	"testing"

	"scrub/api"
)

// inPieces is a script of pieces of some size, with empty reads among them.
func inPieces(input string, size int) []api.Read {
	script := []api.Read{{}}
	for at := 0; at < len(input); at += size {
		script = append(script, api.Read{Data: input[at:min(len(input), at+size)]}, api.Read{})
	}
	return script
}

// randomReads cuts an input at random, with empty reads among the others.
func randomReads(random *rand.Rand, input string) []api.Read {
	var script []api.Read
	for input != "" {
		at := random.Intn(min(len(input), 1+random.Intn(20)) + 1)
		script = append(script, api.Read{Data: input[:at]})
		input = input[at:]
	}
	return append(script, make([]api.Read, random.Intn(3))...)
}

// checkCuts holds an input that is cut everywhere against the whole.
func checkCuts(t *testing.T, p api.Policy, input, want string) {
	t.Helper()
	whole := api.Outcome{Out: want}
	checkClean(t, p, input, want)
	for at := 0; at <= len(input); at++ {
		front, behind := api.Read{Data: input[:at]}, api.Read{Data: input[at:]}
		checkRun(t, p, []api.Read{front, behind}, noLimit, whole)
		checkRun(t, p, []api.Read{{}, front, {}, {}, behind, {}}, api.Sink{Limit: -7, Err: 3}, whole)
	}
	for size := 1; size <= 9; size++ {
		checkRun(t, p, inPieces(input, size), noLimit, whole)
	}
}

func TestCuts(t *testing.T) {
	for _, c := range examples {
		checkCuts(t, base(), c.in, c.out)
	}
	w := strings.Repeat("w", 70)
	for _, c := range []struct{ in, out string }{
		{"", ""},
		// inside a character, and what only looks like one
		{"\u00e9\u20ac\U0001f600\u00a0", "\u00e9\u20ac\U0001f600&nbsp;"},
		{"\xe2\x82x\xf0\x9f\x98\xc3", "\ufffd\ufffdx\ufffd\ufffd\ufffd\ufffd"},
		{"<a title='\u20ac\xe2'>x", "<a title=\"\u20ac\ufffd\">x</a>"},
		// behind a CR
		{"a\r\nb\r\r\n\nc\r", "a\nb\n\n\nc\n"},
		{"<pre>\r\n\r\nx", "<pre>\n\nx</pre>"},
		{"<pre>\rx<pre>\r\n", "<pre>x</pre><pre></pre>"},
		// inside a reference
		{"&amp;&#x41;&#65;&notin;&notit;&ampx&copy", "&amp;AA\u2209\u00acit;&amp;x\u00a9"},
		{"<pre>&#10;&#10;x", "<pre>\n\nx</pre>"},
		{"<a title=\"&amp;&notit;&lt\">x", "<a title=\"&amp;&amp;notit;&lt;\">x</a>"},
		{"&#00000000000000000000000000065;&" + w, "A&amp;" + w},
		// inside a tag, of which one is too long
		{"<A HREF = \"/x\" title='a>b' =\"c>x</a >y", "<a href=\"/x\" title=\"a&gt;b\">x</a>y"},
		{"<b title='" + w + "><'>x</b " + w + ">y", "xy"},
		{"<b x=\"" + w + "\"><svg " + w + ">x</svg>y", "xy"},
		// inside a comment and bogus markup
		{"a<!-- <b> -- - ---><!--><!--->b<!x>c<?y>d</ z>e<!-", "abcde"},
		{"<pre><!-- -->\nx", "<pre>\n\nx</pre>"},
		// inside a raw text's end tag
		{"<script></scrip </SCRIPT x>a<style></styles></style/>b<title></title\n>c", "abc"},
		{"<textarea></textare</textareas></TEXTAREA >a", "&lt;/textare&lt;/textareas&gt;a"},
		{"<textarea></textarea", "&lt;/textarea"},
		{"<iframe></iframe><b>x<xmp></xmp></b><plaintext></plaintext>", "<b>x</b>"},
		{"<script " + w + "></script>a", "a"},
		// what text gives that comes in pieces
		{"<table> x <td> y </table> ", "<table><tbody><tr><td>x </td><td> y </td></tr></tbody></table> "},
		{"<table>  \n <tr>\t<p>x", "<table><tbody><tr><td><p>x</p></td></tr></tbody></table>"},
		{"<svg> x </svg> y", " y"},
	} {
		checkCuts(t, base(), c.in, c.out)
	}
}

func TestCutsOfEverything(t *testing.T) {
	for _, c := range []struct{ in, out string }{
		{"<textarea>\n\n&lt;b></textarea><ul> x<li>\ny</ul>", "<textarea>\n\n&lt;b&gt;</textarea><ul><li>x</li><li>\ny</li></ul>"},
		{"<ul> <li>x</li>\n<br>", "<ul><li>x</li><li><br></li></ul>"},
		{"<img src=\"http://h/p?a=1&amp;b=2\" alt='\"'>", "<img src=\"http://h/p?a=1&amp;b=2\" alt=\"&quot;\">"},
		{"<textarea></textarea x='</textarea>'>y", "<textarea></textarea>y"},
	} {
		checkCuts(t, everything(9, 64), c.in, c.out)
	}
}

func TestRandomCuts(t *testing.T) {
	random := rand.New(rand.NewSource(43))
	for i := range 6000 {
		p := randomPolicy(random)
		input := randomInput(random, nameSets[i%len(nameSets)])
		whole := api.Outcome{Out: fullOutput(p, input, false)}
		checkClean(t, p, input, whole.Out)
		checkRun(t, p, inPieces(input, 1+i%7), noLimit, whole)
		checkRun(t, p, randomReads(random, input), noLimit, whole)
	}
}
