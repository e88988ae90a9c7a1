package sanitize_test

import (
	"math"
	"math/rand"
	"slices"
	"strings"
	"testing"

	"scrub/api"
	"scrub/sanitize"
)

// sinkErrs are the numbers that a sink may tell.
var sinkErrs = []int{0, 4, -4, math.MinInt, math.MaxInt}

// checkLimits looks at sinks of every Limit. whole is what a sink without limit
// leaves behind.
func checkLimits(t *testing.T, p api.Policy, script []api.Read, whole api.Outcome) {
	t.Helper()
	for _, number := range sinkErrs {
		for limit := range len(whole.Out) {
			want := api.Outcome{Out: whole.Out[:limit], Code: api.CodeWrite, Err: number}
			if number == 0 {
				want.Code = api.CodeShort
			}
			checkRun(t, p, script, api.Sink{Limit: limit, Err: number}, want)
		}
		for _, more := range []int{0, 1, 2, 1000} {
			checkRun(t, p, script, api.Sink{Limit: len(whole.Out) + more, Err: number}, whole)
		}
		for _, limit := range []int{-1, -2, math.MinInt, math.MaxInt} {
			checkRun(t, p, script, api.Sink{Limit: limit, Err: number}, whole)
		}
	}
}

func TestEveryLimit(t *testing.T) {
	for _, c := range append(examples, []struct{ in, out string }{
		{"", ""},
		{"x", "x"},
		{"&", "&amp;"},
		{"\u20ac\u00a0", "\u20ac&nbsp;"},
		{"<pre>\n\n", "<pre>\n\n</pre>"},
		{"<table>x<p>y", "<table><tbody><tr><td>x<p>y</p></td></tr></tbody></table>"},
	}...) {
		whole := api.Outcome{Out: c.out}
		checkLimits(t, base(), []api.Read{{Data: c.in}}, whole)
		checkLimits(t, base(), inPieces(c.in, 1), whole)
		checkLimits(t, base(), inPieces(c.in, 3), whole)
	}
	checkLimits(t, base(), nil, api.Outcome{})
}

// A failed write is told ahead of a failed read, wherever the read fails.
func TestFailedWritesAndFailedReads(t *testing.T) {
	for _, script := range [][]api.Read{
		{{Data: "<b>xyz", Err: 8}},
		{{Data: "<b>xyz"}, {Err: 8}},
		{{Data: "<b>"}, {Data: "xyz<", Err: 8}, {Data: "never"}},
		append(inPieces("<b>xyz&am", 1), api.Read{Data: "\xe2", Err: 8}),
	} {
		checkLimits(t, base(), script, api.Outcome{Out: "<b>xyz</b>", Code: api.CodeRead, Err: 8})
	}
	checkLimits(t, base(), []api.Read{{Data: "&", Err: 8}}, api.Outcome{Code: api.CodeRead, Err: 8})
	checkLimits(t, base(), []api.Read{{Err: 8}}, api.Outcome{Code: api.CodeRead, Err: 8})
}

// Of what stands far behind the failed write nothing is seen.
func TestSinksThatFailEarly(t *testing.T) {
	script := slices.Repeat([]api.Read{{Data: "<p>word</p>"}, {}}, 20000)
	script = append(script, api.Read{Err: 7})
	for limit := range 60 {
		want := strings.Repeat("<p>word</p>", 6)[:limit]
		checkRun(t, base(), script, api.Sink{Limit: limit, Err: 1}, api.Outcome{Out: want, Code: api.CodeWrite, Err: 1})
		checkRun(t, base(), script, api.Sink{Limit: limit}, api.Outcome{Out: want, Code: api.CodeShort})
	}
}

func TestRandomLimits(t *testing.T) {
	random := rand.New(rand.NewSource(46))
	for i := range 6000 {
		p := randomPolicy(random)
		input := randomInput(random, nameSets[i%len(nameSets)])
		script := randomReads(random, input)
		broken := random.Intn(2) == 0
		whole := api.Outcome{Out: fullOutput(p, input, broken)}
		if broken {
			script = append(append(script, api.Read{Err: -9}), behindFailure...)
			whole.Code, whole.Err = api.CodeRead, -9
		}
		sink := api.Sink{Limit: random.Intn(len(whole.Out) + 3), Err: random.Intn(3)}
		want := whole
		if sink.Limit < len(whole.Out) {
			want = api.Outcome{Out: whole.Out[:sink.Limit], Code: api.CodeWrite, Err: sink.Err}
			if sink.Err == 0 {
				want.Code = api.CodeShort
			}
		}
		for range 3 {
			if got := sanitize.Run(p, script, sink); got != want {
				t.Fatalf("Run(%v, %#v, %v) = %#v, want %#v", p, script, sink, got, want)
			}
		}
	}
}
