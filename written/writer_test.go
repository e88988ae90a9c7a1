package written_test

import (
	"testing"

	"scrub/api"
	"scrub/eventtest"
	"scrub/written"
)

func TestTakeOneAtATime(t *testing.T) {
	var w written.Writer
	for i, c := range []struct{ in, out string }{
		{"[\n]", "\n"},
		{"<pre id=v>", `<pre id="v">`},
		{"?", ""},
		{"[]", ""},
		{"[\n<]", "\n\n&lt;"},
		{"[\n]", "\n"},
		{"</pre>", "</pre>"},
		{"[\n]", "\n"},
		{"<textarea>", "<textarea>"},
		{"[x]", "x"},
		{"[\n]", "\n"},
		{"<pre>", "<pre>"},
		{"<b>", "<b>"},
		{"[\n]", "\n"},
		{"<pre>", "<pre>"},
		{"</b>", "</b>"},
		{"[\n&]", "\n&amp;"},
		{"<pre>", "<pre>"},
		{"<textarea>", "<textarea>"},
		{"[\n]", "\n\n"},
	} {
		e := eventtest.Read(c.in)[0]
		if got := w.Take(e); got != c.out {
			t.Errorf("event %d, %s, is written as %q, want %q", i, c.in, got, c.out)
		}
	}
	if got := w.Take(api.Event{Kind: api.KindText, Name: "pre"}); got != "" {
		t.Errorf("an empty text is written as %q", got)
	}
}
