package eventtest

import (
	"slices"
	"strconv"

	"scrub/api"
)

func eventAttrs(e *api.Event) *[]api.Attr { return &e.Attrs }

func nodeAttrs(n *api.Node) *[]api.Attr { return &n.Attrs }

// Roomy copies events into lists that are each the front of a longer one.
func Roomy(events []api.Event) []api.Event {
	return roomy(events, api.Event{Kind: api.KindText, Text: "behind"}, eventAttrs)
}

// RoomyNodes does the same to nodes.
func RoomyNodes(nodes []api.Node) []api.Node {
	return roomy(nodes, api.Node{Text: "behind"}, nodeAttrs)
}

func roomy[T any](list []T, fill T, attrs func(*T) *[]api.Attr) []T {
	longer := RoomyList(list, fill)
	for i := range longer {
		own := attrs(&longer[i])
		*own = RoomyList(*own, api.Attr{Name: "behind", Value: "behind"})
	}
	return longer
}

// RoomyList copies a list to the front of a longer one, with fill behind it.
func RoomyList[T any](list []T, fill T) []T {
	whole := append(slices.Clone(list), fill, fill, fill)
	return whole[:len(list)]
}

// WholeList copies a list, with what stands in the room behind its end.
func WholeList[T any](list []T) []T {
	return slices.Clone(list[:cap(list)])
}

// Whole copies events, with what stands in the room behind each list's end.
func Whole(events []api.Event) []api.Event {
	return whole(events, eventAttrs)
}

// WholeNodes does the same to nodes.
func WholeNodes(nodes []api.Node) []api.Node {
	return whole(nodes, nodeAttrs)
}

func whole[T any](list []T, attrs func(*T) *[]api.Attr) []T {
	copied := WholeList(list)
	for i := range copied {
		own := attrs(&copied[i])
		*own = WholeList(*own)
	}
	return copied
}

// Spoil writes over all lists of an answer, the rooms behind their ends too.
func Spoil(events []api.Event) {
	spoil(events, api.Event{Kind: api.KindText, Text: "spoiled"}, eventAttrs)
}

// SpoilNodes does the same to nodes.
func SpoilNodes(nodes []api.Node) {
	spoil(nodes, api.Node{Text: "spoiled"}, nodeAttrs)
}

func spoil[T any](list []T, spoiled T, attrs func(*T) *[]api.Attr) {
	longest := list[:cap(list)]
	for i := range longest {
		own := *attrs(&longest[i])
		own = own[:cap(own)]
		for j := range own {
			own[j] = api.Attr{Name: "spoiled", Value: "spoiled"}
		}
		longest[i] = spoiled
	}
}

// Share tells whether two lists of some answers share memory, the rooms behind
// their ends included. It writes over them.
func Share(answers ...[]api.Event) bool {
	return share(answers, eventAttrs, func(e *api.Event) *string { return &e.Name })
}

// ShareNodes does the same to nodes.
func ShareNodes(answers ...[]api.Node) bool {
	return share(answers, nodeAttrs, func(n *api.Node) *string { return &n.Name })
}

func share[T any](answers [][]T, attrs func(*T) *[]api.Attr, mark func(*T) *string) bool {
	var longest [][]T
	var lists [][]api.Attr
	for _, answer := range answers {
		longest = append(longest, answer[:cap(answer)])
		for i := range answer {
			own := *attrs(&answer[i])
			lists = append(lists, own[:cap(own)])
		}
	}
	return shareCells(lists, func(a *api.Attr) *string { return &a.Name }) || shareCells(longest, mark)
}

// shareCells puts each list's own number into all its cells: where two lists
// share one, the first of them does not find its number there.
func shareCells[T any](lists [][]T, mark func(*T) *string) bool {
	for i, list := range lists {
		for j := range list {
			*mark(&list[j]) = strconv.Itoa(i)
		}
	}
	for i, list := range lists {
		for j := range list {
			if *mark(&list[j]) != strconv.Itoa(i) {
				return true
			}
		}
	}
	return false
}
