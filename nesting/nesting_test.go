package nesting_test

import (
	"testing"

	"scrub/eventtest"
	"scrub/nesting"
)

// What an event gives is put out with it: what package balance makes of whole
// lists is held against a model there.
func TestTakeOneAtATime(t *testing.T) {
	b := nesting.New(5)
	for i, c := range []struct{ in, out string }{
		{"[]", ""},
		{"[x]", "[x]"},
		{"[y]", "[y]"},
		{"?", ""},
		{"<foo>", ""},
		{"<p id=v>", "<p id=v>"},
		{"<br>", "<br>"},
		{"</br>", ""},
		{"<b>", "<b>"},
		{"<ul>", "</b></p><ul>"},
		{"[ ]", ""},
		{"[ x]", "<li>[x]"},
		{"[ y]", "[ y]"},
		{"<li>", "</li><li>"},
		{"</b>", ""},
		{"</ul>", "</li></ul>"},
		{"<table>", "<table>"},
		{"<td>", "<tbody><tr><td>"},
		{"<ul>", "<ul>"},
		{"[x]", ""}, // with an li there would be six
		{"<table>", ""},
		{"</tbody>", "</ul></td></tr></tbody>"},
		{"[\n]", ""},
		{"<b>", "<tbody><tr><td><b>"},
	} {
		if got := b.Take(eventtest.Read(c.in)[0]); !eventtest.Same(got, eventtest.Read(c.out)) {
			t.Errorf("event %d, %s, gives %s, want %s", i, c.in, eventtest.Show(got), c.out)
		}
	}
	if got := eventtest.Show(b.End()); got != "</b></td></tr></tbody></table>" {
		t.Errorf("the end gives %s", got)
	}
	if got := b.End(); len(got) != 0 {
		t.Errorf("a second end gives %s", eventtest.Show(got))
	}
}

// The lists that one balancer answers are each for themselves.
func TestListsOfAnswersShareNoMemory(t *testing.T) {
	b := nesting.New(9)
	in := eventtest.Roomy(eventtest.Read("<table id=v><td k=v l=w>"))
	before := eventtest.Whole(in)
	one, other := b.Take(in[0]), b.Take(in[1])
	if eventtest.Share(one, other, b.End(), b.End()) {
		t.Error("two lists of the answers share memory")
	}
	if !eventtest.Same(eventtest.Whole(in), before) {
		t.Error("what was handed in is written over with an answer")
	}
}
