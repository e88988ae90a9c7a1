// Package sieve keeps what a policy allows, one event at a time. Package policy
// stands on it.
package sieve

import (
	"slices"

	"scrub/api"
	"scrub/vocabulary"
	"scrub/written"
)

// Sieve goes through the events of one stream.
type Sieve struct {
	policy  api.Policy
	skipped string // what the skip began with
	count   int    // how many of skipped are open; 0 outside of a skip
}

// New makes a sieve for a valid policy, whose lists it reads as it goes.
func New(p api.Policy) *Sieve {
	return &Sieve{policy: p}
}

// Take takes the next event. If something of it stays, that is what is kept.
func (s *Sieve) Take(e api.Event) (kept api.Event, stays bool) {
	if s.count > 0 {
		s.skip(e)
		return api.Event{}, false
	}
	switch e.Kind {
	case api.KindStart:
		return s.start(e)
	case api.KindEnd:
		if _, allowed := s.rule(e.Name); allowed {
			return api.Event{Kind: api.KindEnd, Name: e.Name}, true
		}
	case api.KindText:
		if e.Text != "" {
			return api.Event{Kind: api.KindText, Text: e.Text}, true
		}
	}
	return api.Event{}, false
}

// skip takes an event within a skip.
func (s *Sieve) skip(e api.Event) {
	switch {
	case e.Name != s.skipped:
	case e.Kind == api.KindStart:
		s.count++
	case e.Kind == api.KindEnd:
		s.count--
	}
}

// start takes a Start outside of a skip.
func (s *Sieve) start(e api.Event) (kept api.Event, stays bool) {
	if slices.Contains(s.policy.Drop, e.Name) {
		s.skipped, s.count = e.Name, 1
		return api.Event{}, false
	}
	rule, allowed := s.rule(e.Name)
	if !allowed {
		return api.Event{}, false
	}
	attrs := s.cleanAttrs(rule, e.Attrs)
	if len(written.StartTag(e.Name, attrs)) > s.policy.Window {
		return api.Event{}, false
	}
	return api.Event{Kind: api.KindStart, Name: e.Name, Attrs: attrs}, true
}

// rule looks for the rule of an element.
func (s *Sieve) rule(name string) (rule api.Rule, found bool) {
	at := slices.IndexFunc(s.policy.Rules, func(r api.Rule) bool { return r.Name == name })
	if at < 0 {
		return api.Rule{}, false
	}
	return s.policy.Rules[at], true
}

// cleanAttrs is the attributes that may stay, in a list of its own.
func (s *Sieve) cleanAttrs(rule api.Rule, attrs []api.Attr) []api.Attr {
	var clean []api.Attr
	var met []string // of those that the rule lists, so that it stays short
	for _, attr := range attrs {
		if !slices.Contains(rule.Attrs, attr.Name) || slices.Contains(met, attr.Name) {
			continue
		}
		met = append(met, attr.Name)
		if value, stays := s.cleanValue(attr); stays {
			clean = append(clean, api.Attr{Name: attr.Name, Value: value})
		}
	}
	return clean
}

// cleanValue is the value that an attribute is to have, if it may stay.
func (s *Sieve) cleanValue(attr api.Attr) (value string, stays bool) {
	if vocabulary.IsLink(attr.Name) {
		return CleanURL(s.policy.Schemes, attr.Value)
	}
	return attr.Value, true
}
