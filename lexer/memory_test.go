package lexer_test

import (
	"strings"
	"testing"

	"scrub/api"
	"scrub/eventtest"
	"scrub/lexer"
)

func TestListsShareNoMemory(t *testing.T) {
	text := "a<b x=1 y=2 z=3 w=4 v=5><i></i k=1><u x><q y=2 z=3><s>" + strings.Repeat("<b k=v l=w m=x>t</b>", 20)
	held := api.Lexer{Held: text + "<b q=1 r=2>"}
	_, fed := lexer.Feed(64, api.Lexer{}, text)
	_, again := lexer.Feed(64, api.Lexer{}, text)
	if eventtest.Share(fed, again, lexer.Lex(64, text), lexer.Finish(64, held, false), lexer.Finish(64, held, true)) {
		t.Error("two lists of the answers share memory")
	}
}

// An appended attribute is seen in no other list, not even behind an empty one.
func TestAppendingChangesNoOtherList(t *testing.T) {
	events := lexer.Lex(64, "<b><i x><u><q y=2 z=3><s k=1 l=2 m=3><b>")
	var longer [][]api.Attr
	for _, e := range events {
		longer = append(longer, append(e.Attrs, api.Attr{Name: e.Name}))
	}
	for i, e := range events {
		if last := longer[i][len(e.Attrs)]; last.Name != e.Name {
			t.Errorf("behind the list of event %d stands %v", i, last)
		}
	}
	if got := eventtest.Show(events); got != "<b><i x=><u><q y=2 z=3><s k=1 l=2 m=3><b>" {
		t.Errorf("the answer has become %s", got)
	}
}

// What a caller does to an answer is not seen in a later one.
func TestNothingIsKept(t *testing.T) {
	const text = "a<b x=1 y=2>c<pre z>\n"
	for range 3 {
		events := lexer.Lex(32, text)
		if got := eventtest.Show(events); got != "[a]<b x=1 y=2>[c]<pre z=>" {
			t.Fatalf("Lex gives %s", got)
		}
		eventtest.Spoil(events)
	}
}
