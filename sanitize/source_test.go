package sanitize

import (
	"slices"
	"strings"
	"testing"

	"scrub/api"
)

// The reading side sends what each read gives, then ends the text.
func TestSourceSendsPieces(t *testing.T) {
	for _, c := range []struct {
		script []api.Read
		want   string
		failed int
	}{
		{nil, "", 0},
		{[]api.Read{{Data: "a\r"}, {}, {Data: "\nb\xe2"}, {Data: "\x82\xac\xc3"}}, "a\n|b|\u20ac|\ufffd", 0},
		{[]api.Read{{Data: "a\xe2"}, {Data: "\x82", Err: 5}, {Data: "\xac"}}, "a", 5},
		{[]api.Read{{Err: -1}, {Data: "a"}}, "", -1},
	} {
		s := newSource(c.script)
		go s.read()
		var pieces []string
		for text := range s.pieces {
			pieces = append(pieces, text)
		}
		pieces = slices.DeleteFunc(pieces, func(text string) bool { return text == "" })
		if got := strings.Join(pieces, "|"); got != c.want || s.failed != c.failed {
			t.Errorf("%v gives %q and the error %d", c.script, got, s.failed)
		}
	}
}

// Once nobody wants more, the reading side stops ahead of the next read.
func TestSourceStops(t *testing.T) {
	for taken := range 3 {
		s := newSource([]api.Read{{Data: "a"}, {Data: "b"}, {Data: "c", Err: 5}})
		ended := make(chan struct{})
		go func() {
			defer close(ended)
			s.read()
		}()
		for range taken {
			<-s.pieces
		}
		close(s.done)
		<-ended
		if text, more := <-s.pieces; more || s.failed != 0 {
			t.Errorf("behind %d pieces it sends %q and tells %d", taken, text, s.failed)
		}
	}
}
