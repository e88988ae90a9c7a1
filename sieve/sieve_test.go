package sieve_test

import (
	"testing"

	"scrub/api"
	"scrub/eventtest"
	"scrub/sieve"
)

var allowed = api.Policy{
	Rules:   []api.Rule{{Name: "a", Attrs: []string{"href", "title"}}, {Name: "b"}},
	Schemes: []string{"http"},
	Drop:    []string{"svg"},
	Depth:   4,
	Window:  32,
}

// Each event is judged as it comes: what package policy makes of whole lists is
// held against a model there.
func TestTakeOneAtATime(t *testing.T) {
	s := sieve.New(allowed)
	for i, c := range []struct{ in, kept string }{
		{"[x]", "[x]"},
		{"[]", ""},
		{"<b id=v>", "<b>"},
		{"<a href=no:x title=t title=u>", "<a title=t>"},
		{"<a href=\tHTTP:x>", "<a href=HTTP:x>"},
		{"<a title=xxxxxxxxxxxxxxxxxxxxx>", ""},
		{"<u>", ""},
		{"</a>", "</a>"},
		{"</u>", ""},
		{"?", ""},
		// a skip that goes on from event to event
		{"<svg>", ""},
		{"[x]", ""},
		{"<b>", ""},
		{"<svg>", ""},
		{"</svg>", ""},
		{"</b>", ""},
		{"</svg>", ""},
		{"[y]", "[y]"},
		{"</svg>", ""},
		{"<b>", "<b>"},
	} {
		kept, stays := s.Take(eventtest.Read(c.in)[0])
		got := []api.Event{kept}
		if !stays {
			got = nil
		}
		if !eventtest.Same(got, eventtest.Read(c.kept)) || !stays && !eventtest.Same([]api.Event{kept}, []api.Event{{}}) {
			t.Errorf("event %d, %s, gives %s and %v", i, c.in, eventtest.Show([]api.Event{kept}), stays)
		}
	}
}

// Two sieves know nothing of each other.
func TestSievesSideBySide(t *testing.T) {
	one, other := sieve.New(allowed), sieve.New(allowed)
	one.Take(eventtest.Read("<svg>")[0])
	if _, stays := one.Take(eventtest.Read("[x]")[0]); stays {
		t.Error("a text stays within a skip")
	}
	if _, stays := other.Take(eventtest.Read("[x]")[0]); !stays {
		t.Error("a text is lost without a skip")
	}
}
