package policy_test

import (
	"fmt"
	"math"
	"math/rand"
	"slices"
	"strings"
	"testing"

	"scrub/api"
	"scrub/eventtest"
	"scrub/policy"
)

// checkFilter holds one answer against what is wanted, in every field.
func checkFilter(t *testing.T, p api.Policy, events, want []api.Event) {
	t.Helper()
	if got := policy.Filter(p, events); !eventtest.Same(got, want) {
		t.Errorf("Filter(%#v, %s) = %s, want %s", p, eventtest.Show(events), eventtest.Show(got), eventtest.Show(want))
	}
}

func TestFilter(t *testing.T) {
	for _, c := range []struct{ in, out string }{
		{"", ""},
		{"[x]", "[x]"},
		{"[][x][][y]", "[x][y]"},
		{"<b>[x]</b>", "<b>[x]</b>"},
		{"</b><b></b></b>", "</b><b></b></b>"},
		// names without a rule
		{"<i>[x]</i>", "[x]"},
		{"<u><b>[x]</u></b>", "<b>[x]</b>"},
		{"<B>[x]</B><>[y]</>", "[x][y]"},
		{"<script>[x]</script>", "[x]"},
		{"?[x]?", "[x]"},
		// attributes
		{"<a href=x title=y>", "<a href=x title=y>"},
		{"<a title=y href=x>", "<a title=y href=x>"},
		{"<a id=1 onclick=2 title=3 style=4 = HREF=5>", "<a title=3>"},
		{"<b href=x title=y>", "<b>"},
		{"<img href=x src=y alt=z title=w>", "<img src=y alt=z>"},
		{"<a title=1 title=2 title=3>", "<a title=1>"},
		{"<a href=x title=1 href=y title=2>", "<a href=x title=1>"},
		{"<a href=no:x href=http:y>", "<a>"},
		{"<a href=no:x title=t href=http:y>", "<a title=t>"},
		{"<a id=1 title=t id=2>", "<a title=t>"},
		// links
		{"<a href=HTTP:x title=javascript:y>", "<a href=HTTP:x title=javascript:y>"},
		{"<a href=\x00ht\ntp:x\x7f title=\x00\n\x7f>", "<a href=http:x title=\x00\n\x7f>"},
		{"<a href=java\tscript:x>", "<a>"},
		{"<img src=data:x>", "<img>"},
		{"<img src= alt=>", "<img src= alt=>"},
		{"<img alt=no:x src=no:x>", "<img alt=no:x>"},
		// dropped with all they hold
		{"[a]<svg>[b]</svg>[c]", "[a][c]"},
		{"<svg>[a]<b>[b]</b>?</svg><b>", "<b>"},
		{"<svg><svg>[a]</svg>[b]</svg>[c]", "[c]"},
		{"<svg><svg><svg></svg></svg>[b]</svg>[c]</svg>[d]", "[c][d]"},
		{"<svg><div>[a]</svg>[b]</div>[c]", "[b][c]"},
		{"<svg></div>[a]</svg>[b]", "[b]"},
		{"<svg>[a]</SVG>[b]", ""},
		{"<svg k=v>[a]", ""},
		{"<svg>[a]<svg></svg>[b]", ""},
		{"</svg>[a]</svg>", "[a]"},
		{"<div><div></div><svg></div>[a]</svg>[b]", "[a][b]"},
		{"<SVG>[a]</SVG>", "[a]"},
	} {
		checkFilter(t, base(), eventtest.Read(c.in), eventtest.Read(c.out))
	}
}

func TestEventsOfNoKind(t *testing.T) {
	for _, kind := range []int{math.MinInt, -1, 0, 4, 9, math.MaxInt} {
		for _, name := range []string{"b", "svg", "u", ""} {
			none := api.Event{Kind: kind, Name: name, Attrs: []api.Attr{{Name: "id"}}, Text: "x"}
			ends := eventtest.Read("<svg></svg>[y]")
			checkFilter(t, base(), []api.Event{none, ends[2], none}, ends[2:])
			checkFilter(t, base(), []api.Event{ends[0], none, ends[1], none, ends[2]}, ends[2:])
		}
	}
}

// A field that has no meaning is not looked at, and is zero in the answer.
func TestFieldsWithoutMeaning(t *testing.T) {
	attrs := []api.Attr{{Name: "title", Value: "v"}}
	events := []api.Event{
		{Kind: api.KindText, Name: "svg", Attrs: attrs, Text: "t"},
		{Kind: api.KindText, Name: "b", Attrs: attrs},
		{Kind: api.KindStart, Name: "a", Attrs: attrs, Text: "u"},
		{Kind: api.KindEnd, Name: "a", Attrs: attrs, Text: "v"},
		{Kind: api.KindStart, Name: "svg", Attrs: attrs, Text: "w"},
		{Kind: api.KindText, Name: "svg", Text: "t"},
		{Kind: api.KindEnd, Name: "svg", Attrs: attrs, Text: "w"},
		{Kind: api.KindStart, Name: "u", Attrs: attrs, Text: "x"},
	}
	checkFilter(t, base(), events, eventtest.Read("[t]<a title=v></a>"))
}

func TestFilterOfInvalidPolicies(t *testing.T) {
	for number, turns := range faults() {
		for _, turn := range turns {
			p := base()
			turn(&p)
			if got := policy.Filter(p, eventtest.Read("[x]<b></b>")); len(got) != 0 {
				t.Errorf("Filter answers %s under a policy of number %d", eventtest.Show(got), number)
			}
		}
	}
	checkFilter(t, api.Policy{Depth: 1, Window: 32}, eventtest.Read("[x]<b>[y]</b><svg>"), eventtest.Read("[x][y]"))
}

// It is the written tag that is measured, with the signs that grow.
func TestWindow(t *testing.T) {
	front := len(`<a title="">`)
	for sign, size := range map[string]int{"x": 1, "é": 2, "\xff": 1, "'": 1, "\n": 1, "&": 5, "<": 4, ">": 4, "\"": 6, "\u00a0": 6, "\xc2": 1, "\xa0": 1} {
		for _, window := range []int{32, 33, 64, 4095, 4096} {
			p := base()
			p.Window = window
			value := strings.Repeat(sign, (window-front)/size)
			value += strings.Repeat("x", window-front-len(value)/len(sign)*size)
			just := []api.Event{{Kind: api.KindStart, Name: "a", Attrs: []api.Attr{{Name: "title", Value: value}}}}
			checkFilter(t, p, just, just)
			long := []api.Event{{Kind: api.KindStart, Name: "a", Attrs: []api.Attr{{Name: "title", Value: value + "x"}}}}
			checkFilter(t, p, long, nil)
		}
	}
}

// What the policy takes away does not count, and what is stripped neither.
func TestWindowMeasuresWhatIsLeft(t *testing.T) {
	p := base()
	p.Window = 32
	x := strings.Repeat("x", 40)
	for _, c := range []struct{ in, out string }{
		{"<a title=" + x[:20] + ">[t]</a>", "<a title=" + x[:20] + ">[t]</a>"},
		{"<a title=" + x[:21] + ">[t]</a>", "[t]</a>"},
		{"<a id=" + x + " title=" + x[:20] + ">", "<a title=" + x[:20] + ">"},
		{"<a title=" + x[:20] + " title=" + x + ">", "<a title=" + x[:20] + ">"},
		{"<a href=no:" + x + " title=" + x[:20] + ">", "<a title=" + x[:20] + ">"},
		{"<a href=" + strings.Repeat("\n", 40) + x[:21] + "\x00>", "<a href=" + x[:21] + ">"},
		{"<a href=" + x[:22] + ">", ""},
		{"<a href=" + x[:6] + " title=" + x[:6] + ">", "<a href=" + x[:6] + " title=" + x[:6] + ">"},
		{"<a href=" + x[:6] + " title=" + x[:7] + ">", ""},
		{"<a href= title=" + x[:12] + ">", "<a href= title=" + x[:12] + ">"},
		{"<a href= title=" + x[:13] + ">", ""},
		{"<svg k=" + x + ">[t]</svg>", ""},
	} {
		checkFilter(t, p, eventtest.Read(c.in), eventtest.Read(c.out))
	}
}

// modelFilter does what 5.3 says, for a valid policy.
func modelFilter(p api.Policy, events []api.Event) []api.Event {
	rules := map[string][]string{}
	for _, rule := range p.Rules {
		rules[rule.Name] = append([]string{}, rule.Attrs...)
	}
	var kept []api.Event
	for len(events) > 0 {
		e := events[0]
		if e.Kind == api.KindStart && slices.Contains(p.Drop, e.Name) {
			events = behindSkip(events, e.Name)
			continue
		}
		events = events[1:]
		listed, allowed := rules[e.Name]
		switch e.Kind {
		case api.KindStart:
			attrs := modelAttrs(p, listed, e.Attrs)
			if allowed && modelLength(e.Name, attrs) <= p.Window {
				kept = append(kept, api.Event{Kind: e.Kind, Name: e.Name, Attrs: attrs})
			}
		case api.KindEnd:
			if allowed {
				kept = append(kept, api.Event{Kind: e.Kind, Name: e.Name})
			}
		case api.KindText:
			if e.Text != "" {
				kept = append(kept, api.Event{Kind: e.Kind, Text: e.Text})
			}
		}
	}
	return kept
}

// behindSkip is what stands behind the skip that events begin with.
func behindSkip(events []api.Event, name string) []api.Event {
	balance := 0
	for i, e := range events {
		if e.Name == name && e.Kind == api.KindStart {
			balance++
		}
		if e.Name == name && e.Kind == api.KindEnd {
			balance--
		}
		if balance == 0 {
			return events[i+1:]
		}
	}
	return nil
}

func modelAttrs(p api.Policy, listed []string, attrs []api.Attr) []api.Attr {
	var kept []api.Attr
	for i, attr := range attrs {
		isFirst := i == slices.IndexFunc(attrs, func(a api.Attr) bool { return a.Name == attr.Name })
		if !isFirst || !slices.Contains(listed, attr.Name) {
			continue
		}
		if strings.Contains("cite href src", attr.Name) {
			link, stays := modelURL(p.Schemes, attr.Value)
			if !stays {
				continue
			}
			attr.Value = link
		}
		kept = append(kept, attr)
	}
	return kept
}

func modelLength(name string, attrs []api.Attr) int {
	tag := "<" + name
	for _, attr := range attrs {
		value := strings.NewReplacer("&", "&amp;", "<", "&lt;", ">", "&gt;", "\u00a0", "&nbsp;", `"`, "&quot;").Replace(attr.Value)
		tag += fmt.Sprintf(` %s="%s"`, attr.Name, value)
	}
	return len(tag + ">")
}

// randomEvents makes events of all kinds, of names and attributes of all kinds.
func randomEvents(random *rand.Rand) []api.Event {
	names := []string{"a", "b", "img", "u", "svg", "div", "", "B"}
	attrNames := []string{"href", "title", "src", "alt", "id", "onclick"}
	parts := []string{"x", " ", "\t", ":", "/", "http", "HTTP:", "&", "<", "\"", "\u00a0", "yyyyyyyyyy", "no:"}
	var events []api.Event
	for range random.Intn(14) {
		e := api.Event{Kind: random.Intn(5), Name: names[random.Intn(len(names))]}
		for range random.Intn(5) {
			attr := api.Attr{Name: attrNames[random.Intn(len(attrNames))]}
			for range random.Intn(4) {
				attr.Value += parts[random.Intn(len(parts))]
			}
			e.Attrs = append(e.Attrs, attr)
		}
		if random.Intn(4) > 0 {
			e.Text = parts[random.Intn(len(parts))]
		}
		events = append(events, e)
	}
	return events
}

func TestFilterAgainstModel(t *testing.T) {
	random := rand.New(rand.NewSource(6))
	for range 50000 {
		p := base()
		p.Window = 32 + random.Intn(40)
		if random.Intn(3) == 0 {
			p.Drop = nil
		}
		if random.Intn(3) == 0 {
			p.Schemes = nil
		}
		p.Rules = p.Rules[:random.Intn(4)]
		events := randomEvents(random)
		want := modelFilter(p, events)
		checkFilter(t, p, events, want)
		checkFilter(t, p, want, want)
		if t.Failed() {
			return
		}
	}
}

// Attributes without end take no longer than their number asks.
func TestFilterOfManyAttributes(t *testing.T) {
	attrs := []api.Attr{{Name: "title", Value: "t"}}
	for i := range 200000 {
		attrs = append(attrs, api.Attr{Name: fmt.Sprint("x", i)}, api.Attr{Name: "href"}, api.Attr{Name: "title"})
	}
	events := []api.Event{{Kind: api.KindStart, Name: "a", Attrs: attrs}}
	checkFilter(t, base(), events, eventtest.Read("<a title=t href=>"))
}
