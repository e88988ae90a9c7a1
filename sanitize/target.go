package sanitize

import (
	"errors"
	"strings"

	"scrub/api"
)

// How a write can fail.
var (
	errShort = errors.New("the sink took too few bytes and told no error")
	errWrite = errors.New("the sink told an error")
)

// target is what is written to.
type target struct {
	sink api.Sink
	out  strings.Builder
}

func newTarget(sink api.Sink) *target {
	return &target{sink: sink}
}

// write writes as much of text as the sink takes.
func (t *target) write(text string) error {
	room := t.sink.Limit - t.out.Len()
	if t.sink.Limit < 0 || len(text) <= room {
		t.out.WriteString(text)
		return nil
	}
	t.out.WriteString(text[:room])
	if t.sink.Err == 0 {
		return errShort
	}
	return errWrite
}

// outcome is what is left behind when all has been written, or as much of it as
// could be.
func (t *target) outcome(failure error, readErr int) api.Outcome {
	left := api.Outcome{Out: t.out.String()}
	switch {
	case errors.Is(failure, errShort):
		left.Code = api.CodeShort
	case errors.Is(failure, errWrite):
		left.Code, left.Err = api.CodeWrite, t.sink.Err
	case readErr != 0:
		left.Code, left.Err = api.CodeRead, readErr
	}
	return left
}
