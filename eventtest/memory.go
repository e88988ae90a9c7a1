package eventtest

import (
	"slices"
	"strconv"

	"scrub/api"
)

// Roomy copies events into lists that are each the front of a longer one.
func Roomy(events []api.Event) []api.Event {
	roomy := RoomyList(events, api.Event{Kind: api.KindText, Text: "behind"})
	for i, e := range roomy {
		roomy[i].Attrs = RoomyList(e.Attrs, api.Attr{Name: "behind", Value: "behind"})
	}
	return roomy
}

// RoomyList copies a list to the front of a longer one, with fill behind it.
func RoomyList[T any](list []T, fill T) []T {
	whole := append(slices.Clone(list), fill, fill, fill)
	return whole[:len(list)]
}

// Whole copies events, with what stands in the room behind each list's end.
func Whole(events []api.Event) []api.Event {
	whole := slices.Clone(events[:cap(events)])
	for i, e := range whole {
		whole[i].Attrs = slices.Clone(e.Attrs[:cap(e.Attrs)])
	}
	return whole
}

// Spoil writes over all lists of an answer, the rooms behind their ends too.
func Spoil(events []api.Event) {
	whole := events[:cap(events)]
	for i, e := range whole {
		attrs := e.Attrs[:cap(e.Attrs)]
		for j := range attrs {
			attrs[j] = api.Attr{Name: "spoiled", Value: "spoiled"}
		}
		whole[i] = api.Event{Kind: api.KindText, Text: "spoiled"}
	}
}

// Share tells whether two lists of some answers share memory, the rooms behind
// their ends included. It writes over them.
func Share(answers ...[]api.Event) bool {
	var lists [][]api.Attr
	for _, events := range answers {
		for _, e := range events {
			lists = append(lists, e.Attrs[:cap(e.Attrs)])
		}
	}
	return shareCells(lists, func(a *api.Attr) *string { return &a.Name }) ||
		shareCells(wholeLists(answers), func(e *api.Event) *string { return &e.Name })
}

func wholeLists(answers [][]api.Event) [][]api.Event {
	var whole [][]api.Event
	for _, events := range answers {
		whole = append(whole, events[:cap(events)])
	}
	return whole
}

// shareCells puts each list's own number into all its cells: where two lists
// share one, the first of them does not find its number there.
func shareCells[T any](lists [][]T, mark func(*T) *string) bool {
	for i, list := range lists {
		for j := range list {
			*mark(&list[j]) = strconv.Itoa(i)
		}
	}
	for i, list := range lists {
		for j := range list {
			if *mark(&list[j]) != strconv.Itoa(i) {
				return true
			}
		}
	}
	return false
}
