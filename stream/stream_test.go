package stream_test

import (
	"testing"

	"scrub/api"
	"scrub/eventtest"
	"scrub/stream"
)

func TestStream(t *testing.T) {
	for _, c := range []struct{ in, out string }{
		{"", ""},
		{"[]", ""},
		{"[x]", "[x]"},
		{"[x][][y]", "[xy]"},
		{"<b>[][x][y]</b>", "<b>[xy]</b>"},
		{"[x]<b>[y]</b>[z]", "[x]<b>[y]</b>[z]"},
		{"<b></b><i k=v>[]</i>", "<b></b><i k=v></i>"},
	} {
		events := eventtest.Read(c.in)
		var one, other stream.Stream
		one.Put(events...)
		for _, e := range events {
			if e.Kind == api.KindText {
				other.PutText(e.Text)
			} else {
				other.Put(e)
			}
			other.Put()
		}
		for _, got := range [][]api.Event{one.Events(), other.Events()} {
			if !eventtest.Same(got, eventtest.Read(c.out)) {
				t.Errorf("%s is collected as %s", c.in, eventtest.Show(got))
			}
		}
	}
}
