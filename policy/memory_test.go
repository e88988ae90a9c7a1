package policy_test

import (
	"reflect"
	"testing"

	"scrub/api"
	"scrub/eventtest"
	"scrub/policy"
)

const kept = "[x]<a href=u title=v><b></b><a></a><img src=u><svg>[y]</svg>?[z]<i k=v><b>"

func TestArgumentsStayAsTheyAre(t *testing.T) {
	p, events := eventtest.RoomyPolicy(base()), eventtest.Roomy(eventtest.Read(kept))
	wantPolicy, wantEvents := eventtest.WholePolicy(p), eventtest.Whole(events)
	check := func(call string) {
		t.Helper()
		if !reflect.DeepEqual(eventtest.WholePolicy(p), wantPolicy) || !eventtest.Same(eventtest.Whole(events), wantEvents) {
			t.Fatalf("%s changes what it is handed", call)
		}
	}
	policy.Check(p)
	check("Check")
	policy.CleanURL(p.Schemes, " HTTP:\tx ")
	policy.CleanURL(p.Schemes[:1], "behind:x")
	check("CleanURL")
	got := policy.Filter(p, events)
	check("Filter")
	eventtest.Spoil(got)
	check("writing over an answer of Filter")
	p.Depth = 0
	wantPolicy.Depth = 0
	policy.Check(p)
	_ = append(policy.Filter(p, events), api.Event{}, api.Event{})
	check("Filter under an invalid policy")
}

func TestListsOfAnswersShareNoMemory(t *testing.T) {
	p, events := eventtest.RoomyPolicy(base()), eventtest.Roomy(eventtest.Read(kept))
	one, other := policy.Filter(p, events), policy.Filter(p, events)
	if len(one) != 9 || !eventtest.Same(one, other) {
		t.Fatalf("Filter gives %s and %s", eventtest.Show(one), eventtest.Show(other))
	}
	if eventtest.Share(one, other, policy.Filter(p, nil), policy.Filter(p, events[:0])) {
		t.Error("two lists of the answers share memory")
	}
	if got := policy.Filter(p, events); len(got) != 9 || got[1].Attrs[0].Value != "u" {
		t.Errorf("Filter keeps something: %s", eventtest.Show(got))
	}
}

// What stands behind a list's end is no part of it.
func TestRoomBehindListsIsNotRead(t *testing.T) {
	p := eventtest.RoomyPolicy(base())
	for _, event := range eventtest.Read("<b behind=x>[t]<behind>") {
		for _, e := range policy.Filter(p, []api.Event{event}) {
			if len(e.Attrs) > 0 || e.Name == "behind" {
				t.Errorf("Filter keeps %v", e)
			}
		}
	}
	if _, stays := policy.CleanURL(p.Schemes, "behind:x"); stays {
		t.Error("CleanURL reads behind the schemes' end")
	}
	if got := policy.Check(p); got != api.PolicyOK {
		t.Errorf("Check = %d", got)
	}
}
