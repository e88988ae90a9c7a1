package sanitize

import (
	"scrub/api"
	"scrub/lexer"
	"scrub/nesting"
	"scrub/sieve"
	"scrub/written"
)

// cleaner is the caller's side. Each piece of text goes through to the target
// before the next one is asked for, event by event.
type cleaner struct {
	window   int
	state    api.Lexer
	allowed  *sieve.Sieve
	balancer *nesting.Balancer
	form     written.Writer
	to       *target
}

// newCleaner makes a cleaner for a valid policy.
func newCleaner(p api.Policy, to *target) *cleaner {
	return &cleaner{window: p.Window, allowed: sieve.New(p), balancer: nesting.New(p.Depth), to: to}
}

// clean takes all that the reading side gives. It answers early if a write fails.
func (c *cleaner) clean(from *source) error {
	for text := range from.pieces {
		next, events := lexer.Feed(c.window, c.state, text)
		c.state = next
		if err := c.takeAll(events); err != nil {
			return err
		}
	}
	isBroken := from.failed != 0
	if err := c.takeAll(lexer.Finish(c.window, c.state, isBroken)); err != nil {
		return err
	}
	return c.writeAll(c.balancer.End())
}

// takeAll takes the lexer's events.
func (c *cleaner) takeAll(events []api.Event) error {
	for _, e := range events {
		kept, stays := c.allowed.Take(e)
		if !stays {
			continue
		}
		if err := c.writeAll(c.balancer.Take(kept)); err != nil {
			return err
		}
	}
	return nil
}

// writeAll writes events that are well nested.
func (c *cleaner) writeAll(events []api.Event) error {
	for _, e := range events {
		if err := c.to.write(c.form.Take(e)); err != nil {
			return err
		}
	}
	return nil
}
