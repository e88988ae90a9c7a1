package balance_test

import (
	"testing"

	"scrub/api"
	"scrub/balance"
	"scrub/eventtest"
)

const mixed = "[x]<b k=v l=w>[y]<i></b><ul>[ ][z]<br id=1>?<table><td><a href=u><a title=v><li k=v>[ ]<p class=c>"

func TestArgumentsStayAsTheyAre(t *testing.T) {
	for _, depth := range []int{0, 1, 2, 4, 9, 256, 257} {
		events := eventtest.Roomy(eventtest.Read(mixed))
		before := eventtest.Whole(events)
		got := balance.Balance(depth, events)
		if !eventtest.Same(eventtest.Whole(events), before) {
			t.Fatalf("Balance(%d) changes what it is handed", depth)
		}
		_ = append(got, api.Event{}, api.Event{})
		eventtest.Spoil(got)
		if !eventtest.Same(eventtest.Whole(events), before) {
			t.Fatalf("writing over an answer of Balance(%d) changes what was handed in", depth)
		}
	}
}

func TestListsOfAnswersShareNoMemory(t *testing.T) {
	events := eventtest.Roomy(eventtest.Read(mixed))
	one, other := balance.Balance(9, events), balance.Balance(9, events)
	if len(one) == 0 || !eventtest.Same(one, other) {
		t.Fatalf("Balance gives %s and %s", eventtest.Show(one), eventtest.Show(other))
	}
	again := balance.Balance(9, one)
	if eventtest.Share(one, other, again, balance.Balance(9, events[:0]), balance.Balance(0, events)) {
		t.Error("two lists of the answers share memory")
	}
	want := eventtest.Read(mixed)
	if got := balance.Balance(9, events); !eventtest.Same(got, balance.Balance(9, want)) {
		t.Errorf("Balance keeps something: %s", eventtest.Show(got))
	}
}

// An appended attribute is seen in no other list, not even behind an empty one.
func TestAppendingChangesNoOtherList(t *testing.T) {
	events := eventtest.Roomy(eventtest.Read("<table><b><i></b>[x]<br><ul k=v>[y]"))
	before := eventtest.Whole(events)
	got := balance.Balance(9, events)
	var longer [][]api.Attr
	for _, e := range got {
		longer = append(longer, append(e.Attrs, api.Attr{Name: e.Name}))
	}
	for i, e := range got {
		if last := longer[i][len(e.Attrs)]; last.Name != e.Name {
			t.Errorf("behind the list of event %d stands %v", i, last)
		}
	}
	if !eventtest.Same(eventtest.Whole(events), before) {
		t.Error("what was handed in has changed")
	}
}
