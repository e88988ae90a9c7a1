package policy

import (
	"slices"

	"scrub/api"
	"scrub/vocabulary"
	"scrub/written"
)

// filter goes through the events of one call under a valid policy.
type filter struct {
	policy  api.Policy
	skipped string // what the skip began with
	count   int    // how many of skipped are open; 0 outside of a skip
	kept    []api.Event
}

// take takes the next event.
func (f *filter) take(e api.Event) {
	if f.count > 0 {
		f.skip(e)
		return
	}
	switch e.Kind {
	case api.KindStart:
		f.start(e)
	case api.KindEnd:
		if _, allowed := f.rule(e.Name); allowed {
			f.kept = append(f.kept, api.Event{Kind: api.KindEnd, Name: e.Name})
		}
	case api.KindText:
		if e.Text != "" {
			f.kept = append(f.kept, api.Event{Kind: api.KindText, Text: e.Text})
		}
	}
}

// skip takes an event within a skip.
func (f *filter) skip(e api.Event) {
	switch {
	case e.Name != f.skipped:
	case e.Kind == api.KindStart:
		f.count++
	case e.Kind == api.KindEnd:
		f.count--
	}
}

// start takes a Start outside of a skip.
func (f *filter) start(e api.Event) {
	if slices.Contains(f.policy.Drop, e.Name) {
		f.skipped, f.count = e.Name, 1
		return
	}
	rule, allowed := f.rule(e.Name)
	if !allowed {
		return
	}
	attrs := f.cleanAttrs(rule, e.Attrs)
	if len(written.StartTag(e.Name, attrs)) <= f.policy.Window {
		f.kept = append(f.kept, api.Event{Kind: api.KindStart, Name: e.Name, Attrs: attrs})
	}
}

// rule looks for the rule of an element.
func (f *filter) rule(name string) (rule api.Rule, found bool) {
	at := slices.IndexFunc(f.policy.Rules, func(r api.Rule) bool { return r.Name == name })
	if at < 0 {
		return api.Rule{}, false
	}
	return f.policy.Rules[at], true
}

// cleanAttrs is the attributes that may stay, in a list of its own.
func (f *filter) cleanAttrs(rule api.Rule, attrs []api.Attr) []api.Attr {
	var clean []api.Attr
	var met []string // of those that the rule lists, so that it stays short
	for _, attr := range attrs {
		if !slices.Contains(rule.Attrs, attr.Name) || slices.Contains(met, attr.Name) {
			continue
		}
		met = append(met, attr.Name)
		if value, stays := f.cleanValue(attr); stays {
			clean = append(clean, api.Attr{Name: attr.Name, Value: value})
		}
	}
	return clean
}

// cleanValue is the value that an attribute is to have, if it may stay.
func (f *filter) cleanValue(attr api.Attr) (value string, stays bool) {
	if vocabulary.IsLink(attr.Name) {
		return CleanURL(f.policy.Schemes, attr.Value)
	}
	return attr.Value, true
}
