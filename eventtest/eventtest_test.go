package eventtest_test

import (
	"math/rand"
	"reflect"
	"slices"
	"testing"

	"scrub/api"
	"scrub/eventtest"
)

func TestShortForm(t *testing.T) {
	events := eventtest.Read("<b>[x y]<a href=u title=>?</b>[]</>")
	want := []api.Event{
		{Kind: api.KindStart, Name: "b"},
		{Kind: api.KindText, Text: "x y"},
		{Kind: api.KindStart, Name: "a", Attrs: []api.Attr{{Name: "href", Value: "u"}, {Name: "title"}}},
		{Kind: 9, Name: "b", Attrs: []api.Attr{{Name: "id", Value: "v"}}, Text: "x"},
		{Kind: api.KindEnd, Name: "b"},
		{Kind: api.KindText},
		{Kind: api.KindEnd},
	}
	if !eventtest.Same(events, want) {
		t.Errorf("%#v", events)
	}
	if got := eventtest.Show(want); got != "<b>[x y]<a href=u title=>?</b>[]</>" {
		t.Error(got)
	}
}

func TestCutTexts(t *testing.T) {
	random := rand.New(rand.NewSource(9))
	events := eventtest.Read("<b k=v>[xyz]</b>?[x][]")
	cuts := map[int]bool{}
	for range 100 {
		cut := eventtest.CutTexts(random.Intn, events)
		if len(cut) != len(events)+2*3 || cut[1].Text+cut[3].Text != "xyz" || !eventtest.Same(cut[:1], events[:1]) || !eventtest.Same(cut[4:6], events[2:4]) {
			t.Fatalf("%s is cut to %s", eventtest.Show(events), eventtest.Show(cut))
		}
		cuts[len(cut[1].Text)] = true
	}
	if len(cuts) != 4 {
		t.Errorf("a text of three bytes is cut in %d ways", len(cuts))
	}
}

func TestSameLooksAtEveryField(t *testing.T) {
	one := api.Event{Kind: 1, Name: "n", Attrs: []api.Attr{{Name: "k", Value: "v"}}, Text: "t"}
	for _, turn := range []func(*api.Event){
		func(e *api.Event) { e.Kind = 2 },
		func(e *api.Event) { e.Name = "" },
		func(e *api.Event) { e.Attrs = nil },
		func(e *api.Event) { e.Attrs = []api.Attr{{Name: "k", Value: "w"}} },
		func(e *api.Event) { e.Text = "" },
	} {
		other := one
		turn(&other)
		if eventtest.Same([]api.Event{one}, []api.Event{other}) {
			t.Errorf("%#v passes for %#v", other, one)
		}
	}
	if !eventtest.Same([]api.Event{{Attrs: []api.Attr{}}}, []api.Event{{}}) || !eventtest.Same(nil, []api.Event{}) {
		t.Error("an empty list does not pass for a nil one")
	}
}

// A helper that sees no shared memory would let every memory test pass.
func TestSharedMemoryIsSeen(t *testing.T) {
	roomy := eventtest.Roomy(eventtest.Read("<b k=v><i>[x]"))
	before := eventtest.Whole(roomy)
	for what, write := range map[string]func(){
		"an event":                   func() { roomy[1].Name = "u" },
		"behind the events":          func() { _ = append(roomy, api.Event{}) },
		"an attribute":               func() { roomy[0].Attrs[0].Value = "w" },
		"behind the attributes":      func() { _ = append(roomy[0].Attrs, api.Attr{}) },
		"behind an empty list":       func() { _ = append(roomy[1].Attrs, api.Attr{}) },
		"a spoiled copy of the list": func() { eventtest.Spoil(slices.Clone(roomy)) },
	} {
		write()
		if eventtest.Same(eventtest.Whole(roomy), before) {
			t.Errorf("%s is written and nobody sees it", what)
		}
		roomy = eventtest.Roomy(eventtest.Read("<b k=v><i>[x]"))
	}
	attrs := make([]api.Attr, 2, 4)
	for i, answer := range [][]api.Event{
		{{Attrs: attrs[:1]}, {Attrs: attrs[1:]}},
		{{Attrs: attrs[:2:2]}, {Attrs: attrs[1:]}},
		{{Attrs: attrs[:0]}, {Attrs: attrs[3:4]}},
	} {
		if !eventtest.Share(answer) {
			t.Errorf("shared attribute lists %d are not seen", i)
		}
	}
	if !eventtest.Share(roomy[:1], roomy[2:]) || eventtest.Share(roomy, eventtest.Whole(roomy)) {
		t.Error("Share is wrong about lists of events")
	}
	if eventtest.Share([]api.Event{{Attrs: attrs[:2:2]}, {Attrs: attrs[2:]}, {}}) {
		t.Error("lists side by side pass for shared ones")
	}
}

func TestSharedMemoryOfPoliciesIsSeen(t *testing.T) {
	plain := api.Policy{Rules: []api.Rule{{Name: "a", Attrs: []string{"href"}}, {Name: "b"}}, Schemes: []string{"http"}, Drop: []string{"svg"}, Depth: 1}
	var roomy api.Policy
	for what, write := range map[string]func(){
		"a rule":                func() { roomy.Rules[0].Name = "i" },
		"behind the rules":      func() { _ = append(roomy.Rules, api.Rule{}) },
		"an attribute":          func() { roomy.Rules[0].Attrs[0] = "src" },
		"behind the attributes": func() { _ = append(roomy.Rules[0].Attrs, "src") },
		"behind an empty list":  func() { _ = append(roomy.Rules[1].Attrs, "src") },
		"behind the schemes":    func() { _ = append(roomy.Schemes, "x") },
		"behind the drops":      func() { _ = append(roomy.Drop, "x") },
	} {
		roomy = eventtest.RoomyPolicy(plain)
		before := eventtest.WholePolicy(roomy)
		if !reflect.DeepEqual(eventtest.WholePolicy(roomy), before) {
			t.Error("a policy is not the same as itself")
		}
		write()
		if reflect.DeepEqual(eventtest.WholePolicy(roomy), before) {
			t.Errorf("%s is written and nobody sees it", what)
		}
	}
	if len(roomy.Rules) != 2 || len(roomy.Drop) != 1 || plain.Rules[0].Name != "a" || plain.Rules[0].Attrs[0] != "href" {
		t.Errorf("of %v is made %v", plain, roomy)
	}
}
