package stream_test

import (
	"testing"

	"scrub/api"
	"scrub/eventtest"
	"scrub/stream"
)

func TestStream(t *testing.T) {
	for _, c := range []struct{ in, out string }{
		{"", ""},
		{"[]", ""},
		{"[x]", "[x]"},
		{"[x][][y]", "[xy]"},
		{"<b>[][x][y]</b>", "<b>[xy]</b>"},
		{"[x]<b>[y]</b>[z]", "[x]<b>[y]</b>[z]"},
		{"<b></b><i k=v>[]</i>", "<b></b><i k=v></i>"},
	} {
		var s stream.Stream
		for _, e := range eventtest.Read(c.in) {
			if e.Kind == api.KindText {
				s.PutText(e.Text)
			} else {
				s.Put(e)
			}
		}
		if got := s.Events(); !eventtest.Same(got, eventtest.Read(c.out)) {
			t.Errorf("%s is collected as %s", c.in, eventtest.Show(got))
		}
	}
}
