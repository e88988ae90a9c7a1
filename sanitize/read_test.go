package sanitize_test

import (
	"math"
	"math/rand"
	"testing"

	"scrub/api"
	"scrub/chars"
	"scrub/lexer"
	"scrub/sanitize"
)

// behindFailure is reads that are never made.
var behindFailure = []api.Read{{Data: "\x82\xac;>never"}, {Data: "<b>read", Err: 9}, {Err: 8}}

// checkFailed looks at a prefix behind which a read fails, in all ways to make
// the last read.
func checkFailed(t *testing.T, p api.Policy, prefix, out string) {
	t.Helper()
	for _, number := range []int{5, -1, math.MinInt, math.MaxInt} {
		want := api.Outcome{Out: out, Code: api.CodeRead, Err: number}
		for at := 0; at <= len(prefix); at++ {
			front, behind := prefix[:at], prefix[at:]
			for _, script := range [][]api.Read{
				{{Data: front}, {Data: behind, Err: number}},
				{{Data: front}, {}, {Data: behind}, {Err: number}},
			} {
				checkRun(t, p, script, noLimit, want)
				checkRun(t, p, append(script, behindFailure...), noLimit, want)
			}
		}
		checkRun(t, p, []api.Read{{Data: prefix, Err: number}}, noLimit, want)
		checkRun(t, p, append([]api.Read{{Data: prefix, Err: number}}, behindFailure...), noLimit, want)
		checkRun(t, p, append(inPieces(prefix, 1), api.Read{Err: number}), noLimit, want)
	}
	checkOutput(t, p, prefix, true, out)
}

func TestFailedReads(t *testing.T) {
	for _, c := range []struct{ prefix, out string }{
		{"", ""},
		{"x", "x"},
		{"<p>x", "<p>x</p>"},
		{"<b>x</b>y", "<b>x</b>y"},
		{"<table>x", "<table><tbody><tr><td>x</td></tr></tbody></table>"},
		// an unfinished character
		{"x\xe2\x82", "x"},
		{"x\xf0\x9f\x98", "x"},
		{"x\xe2\x82\xac", "x\u20ac"},
		{"x\xed\xa0", "x\ufffd\ufffd"},
		{"x\xff", "x\ufffd"},
		{"<b>\xc2", "<b></b>"},
		{"<b title='\xc2", ""},
		// behind a CR
		{"x\r", "x\n"},
		{"x\r\n", "x\n"},
		{"<pre>\r", "<pre></pre>"},
		{"<pre>\r\r", "<pre>\n\n</pre>"},
		// an unfinished reference
		{"x&", "x"},
		{"x&am", "x"},
		{"x&amp", "x"},
		{"x&amp;", "x&amp;"},
		{"x&amp ", "x&amp; "},
		{"x&#x4", "x"},
		{"x&#", "x"},
		{"x&y&z", "x&amp;y"},
		{"x&0123456789012345678901234567890", "x&amp;0123456789012345678901234567890"},
		{"x&012345678901234567890123456789", "x"},
		// an unfinished tag
		{"x<", "x"},
		{"x</", "x"},
		{"x<b", "x"},
		{"x</b", "x"},
		{"<b>x</b", "<b>x</b>"},
		{"x<a href=\"u\"", "x"},
		{"x<a href=\"u\">", "x<a href=\"u\"></a>"},
		{"x<<", "x&lt;"},
		{"x<1", "x&lt;1"},
		// a comment, bogus markup, a raw text
		{"x<!", "x"},
		{"x<!-", "x"},
		{"x<!-- y --", "x"},
		{"x<!-- y -->z", "xz"},
		{"x<?y", "x"},
		{"x<script>y</script", "x"},
		{"x<textarea>y</text", "xy"},
		{"x<textarea>y</textarea>z", "xyz"},
		{"x<textarea>y</texta<z", "xy&lt;/texta&lt;z"},
		{"x<svg>y", "x"},
	} {
		checkFailed(t, base(), c.prefix, c.out)
	}
	checkFailed(t, everything(9, 32), "<textarea>\n\nx</textare", "<textarea>\n\nx</textarea>")
	checkFailed(t, everything(9, 32), "<ul> <li>x<br", "<ul><li>x</li></ul>")
}

// Of several reads that would fail the first one is told, and no other is made.
func TestFirstFailureIsTold(t *testing.T) {
	for _, script := range [][]api.Read{
		{{Err: 3}},
		{{Err: 3}, {Data: "x"}},
		{{Err: 3}, {Err: 4}, {Err: -3}},
		{{}, {}, {Err: 3}, {Data: "x", Err: 3}},
		{{Data: "\xe2", Err: 3}, {Data: "\x82\xac"}},
		{{Data: "<"}, {Data: "b", Err: 3}, {Data: ">x"}},
		{{Data: "&am"}, {Data: "p", Err: 3}, {Data: ";"}},
	} {
		checkRun(t, base(), script, noLimit, api.Outcome{Code: api.CodeRead, Err: 3})
	}
}

func TestFailedReadsOfRandomPrefixes(t *testing.T) {
	random := rand.New(rand.NewSource(45))
	for i := range 6000 {
		p := randomPolicy(random)
		prefix := randomInput(random, nameSets[i%len(nameSets)])
		prefix = prefix[:random.Intn(len(prefix)+1)]
		want := api.Outcome{Out: fullOutput(p, prefix, true), Code: api.CodeRead, Err: 1 + i}
		checkRun(t, p, []api.Read{{Data: prefix, Err: 1 + i}}, noLimit, want)
		script := append(randomReads(random, prefix), api.Read{Err: 1 + i})
		checkRun(t, p, append(script, behindFailure...), noLimit, want)
		checkOutput(t, p, prefix, true, want.Out)
		// Nothing waits behind a line end: where text comes next, breaking it off loses nothing.
		whole := prefix + "\n"
		want.Out = sanitize.Clean(p, whole).Out
		if state, _ := lexer.Feed(p.Window, api.Lexer{}, chars.Normal(whole)); state.Held == "" {
			checkRun(t, p, []api.Read{{Data: whole, Err: 1 + i}}, noLimit, want)
		}
	}
}
