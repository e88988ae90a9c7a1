package eventtest_test

import (
	"slices"
	"testing"

	"scrub/api"
	"scrub/eventtest"
)

func TestShortFormOfNodes(t *testing.T) {
	const short = "<b>.[x.y].<a href=u title=>..[][z]"
	nodes := eventtest.ReadNodes(short)
	want := []api.Node{
		{Name: "b"},
		{Depth: 1, Text: "x.y"},
		{Depth: 1, Name: "a", Attrs: []api.Attr{{Name: "href", Value: "u"}, {Name: "title"}}},
		{Depth: 2},
		{Text: "z"},
	}
	if !eventtest.SameNodes(nodes, want) {
		t.Errorf("%#v", nodes)
	}
	if got := eventtest.ShowNodes(want); got != short {
		t.Error(got)
	}
}

func TestSameNodesLooksAtEveryField(t *testing.T) {
	one := api.Node{Depth: 1, Name: "n", Attrs: []api.Attr{{Name: "k", Value: "v"}}, Text: "t"}
	for _, turn := range []func(*api.Node){
		func(n *api.Node) { n.Depth = 2 },
		func(n *api.Node) { n.Name = "" },
		func(n *api.Node) { n.Attrs = nil },
		func(n *api.Node) { n.Attrs = []api.Attr{{Name: "k", Value: "w"}} },
		func(n *api.Node) { n.Text = "" },
	} {
		other := one
		turn(&other)
		if eventtest.SameNodes([]api.Node{one}, []api.Node{other}) {
			t.Errorf("%#v passes for %#v", other, one)
		}
	}
	if !eventtest.SameNodes([]api.Node{{Attrs: []api.Attr{}}}, []api.Node{{}}) || !eventtest.SameNodes(nil, []api.Node{}) {
		t.Error("an empty list does not pass for a nil one")
	}
}

func TestSharedMemoryOfNodesIsSeen(t *testing.T) {
	roomy := eventtest.RoomyNodes(eventtest.ReadNodes("<b k=v>.<i>.[x]"))
	before := eventtest.WholeNodes(roomy)
	for what, write := range map[string]func(){
		"a node":                     func() { roomy[1].Depth = 2 },
		"behind the nodes":           func() { _ = append(roomy, api.Node{}) },
		"an attribute":               func() { roomy[0].Attrs[0].Value = "w" },
		"behind an empty list":       func() { _ = append(roomy[1].Attrs, api.Attr{}) },
		"a spoiled copy of the list": func() { eventtest.SpoilNodes(slices.Clone(roomy)) },
	} {
		write()
		if eventtest.SameNodes(eventtest.WholeNodes(roomy), before) {
			t.Errorf("%s is written and nobody sees it", what)
		}
		roomy = eventtest.RoomyNodes(eventtest.ReadNodes("<b k=v>.<i>.[x]"))
	}
	attrs := make([]api.Attr, 2, 4)
	if !eventtest.ShareNodes([]api.Node{{Attrs: attrs[:1]}, {Attrs: attrs[1:]}}) || !eventtest.ShareNodes(roomy[:1], roomy[2:]) {
		t.Error("shared memory is not seen")
	}
	if eventtest.ShareNodes(roomy, eventtest.WholeNodes(roomy)) {
		t.Error("a copy passes for shared memory")
	}
}
