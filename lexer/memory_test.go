package lexer_test

import (
	"slices"
	"strings"
	"testing"

	"scrub/api"
	"scrub/lexer"
)

// wholeLists is the attribute lists of some answers, each with the room behind its end.
func wholeLists(answers ...[]api.Event) [][]api.Attr {
	var lists [][]api.Attr
	for _, events := range answers {
		for _, e := range events {
			lists = append(lists, e.Attrs[:cap(e.Attrs)])
		}
	}
	return lists
}

// checkOwnLists writes over one list after the other, the room behind its end
// too, and looks at all the others.
func checkOwnLists(t *testing.T, lists [][]api.Attr) {
	t.Helper()
	for i, list := range lists {
		var before [][]api.Attr
		for _, other := range lists {
			before = append(before, slices.Clone(other))
		}
		for j := range list {
			list[j] = api.Attr{Name: "spoiled", Value: "spoiled"}
		}
		for j, other := range lists {
			if j != i && !slices.Equal(other, before[j]) {
				t.Fatalf("writing over list %d of %d changes list %d", i, len(lists), j)
			}
		}
	}
}

// checkOwnEvents writes over one answer, the room behind its end too, and looks at another.
func checkOwnEvents(t *testing.T, one, other []api.Event) {
	t.Helper()
	other = other[:cap(other)]
	before := slices.Clone(other)
	one = one[:cap(one)]
	for i := range one {
		one[i] = api.Event{Kind: api.KindText, Text: "spoiled"}
	}
	if !sameEvents(other, before) {
		t.Fatalf("writing over one answer changes another")
	}
}

func TestListsShareNoMemory(t *testing.T) {
	text := "a<b x=1 y=2 z=3 w=4 v=5><i></i k=1><u x><q y=2 z=3><s>" + strings.Repeat("<b k=v l=w m=x>t</b>", 20)
	held := api.Lexer{Held: text + "<b q=1 r=2>"}
	_, fed := lexer.Feed(64, api.Lexer{}, text)
	_, again := lexer.Feed(64, api.Lexer{}, text)
	checkOwnLists(t, wholeLists(fed, again, lexer.Lex(64, text), lexer.Finish(64, held, false), lexer.Finish(64, held, true)))
	checkOwnEvents(t, fed, again)
	checkOwnEvents(t, again, lexer.Lex(64, text))
	checkOwnEvents(t, lexer.Finish(64, held, false), lexer.Finish(64, held, true))
}

// An appended attribute is seen in no other list, not even behind an empty one.
func TestAppendingChangesNoOtherList(t *testing.T) {
	events := lexer.Lex(64, "<b><i x><u><q y=2 z=3><s k=1 l=2 m=3><b>")
	var longer [][]api.Attr
	for _, e := range events {
		longer = append(longer, append(e.Attrs, api.Attr{Name: e.Name}))
	}
	for i, e := range events {
		if last := longer[i][len(e.Attrs)]; last.Name != e.Name {
			t.Errorf("behind the list of event %d stands %v", i, last)
		}
	}
	if got := show(events); got != "<b><i x=><u><q y=2 z=3><s k=1 l=2 m=3><b>" {
		t.Errorf("the answer has become %s", got)
	}
}

// What a caller does to an answer is not seen in a later one.
func TestNothingIsKept(t *testing.T) {
	const text = "a<b x=1 y=2>c<pre z>\n"
	for range 3 {
		events := lexer.Lex(32, text)
		if got := show(events); got != "[a]<b x=1 y=2>[c]<pre z=>" {
			t.Fatalf("Lex gives %s", got)
		}
		for _, list := range wholeLists(events) {
			for i := range list {
				list[i] = api.Attr{Name: "spoiled"}
			}
		}
		checkOwnEvents(t, events, lexer.Lex(32, text))
	}
}
