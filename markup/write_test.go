package markup_test

import (
	"math/rand"
	"strings"
	"testing"

	"scrub/api"
	"scrub/chars"
	"scrub/eventtest"
	"scrub/markup"
)

func checkWrite(t *testing.T, events []api.Event, want string) {
	t.Helper()
	if got := markup.Write(events); got != want {
		t.Errorf("Write(%s) = %q, want %q", eventtest.Show(events), got, want)
	}
}

func TestWriteOfTags(t *testing.T) {
	for in, want := range map[string]string{
		"":                                "",
		"<b></b>":                         "<b></b>",
		"<a href=u title=></a>":           `<a href="u" title=""></a>`,
		"<br><hr id=1><img src=u>":        `<br><hr id="1"><img src="u">`,
		"</br></p></>":                    "</br></p></>",
		"<><X-y></Z z></\"&\u00a0'>":      "<><X-y></Z z></\"&\u00a0'>",
		"<svg =v a&\"\u00a0==w id=1 id=>": "<svg =\"v\" a&\"\u00a0=\"=w\" id=\"1\" id=\"\">",
		"</b><b></b></b><i>":              "</b><b></b></b><i>",
		"?":                               "",
		"?<b>?[x]?</b>?":                  "<b>x</b>",
	} {
		checkWrite(t, eventtest.Read(in), want)
	}
}

func TestEventsOfNoKindWriteNothing(t *testing.T) {
	for _, kind := range []int{-1 << 63, -1, 0, 4, 5, 1<<63 - 1} {
		e := api.Event{Kind: kind, Name: "pre", Text: "x", Attrs: []api.Attr{{Name: "id"}}}
		checkWrite(t, []api.Event{e}, "")
		checkWrite(t, []api.Event{e, {Kind: api.KindText, Text: "\n"}, e}, "\n")
	}
}

// What has no meaning in an event is not looked at.
func TestWriteOfOtherFields(t *testing.T) {
	attrs := []api.Attr{{Name: "id"}}
	checkWrite(t, []api.Event{
		{Kind: api.KindStart, Name: "b", Text: "x"},
		{Kind: api.KindText, Name: "pre", Attrs: attrs, Text: "y"},
		{Kind: api.KindText, Text: "\n"},
		{Kind: api.KindEnd, Name: "pre", Attrs: attrs, Text: "z"},
		{Kind: api.KindText, Text: "\n"},
	}, "<b>y\n</pre>\n")
}

// Each byte is escaped or stays as it is, in a text and in a value.
func TestEveryByteWritten(t *testing.T) {
	for i := range 256 {
		c := string([]byte{byte(i)})
		text, value := c, c
		switch c {
		case "&":
			text, value = "&amp;", "&amp;"
		case "<":
			text, value = "&lt;", "&lt;"
		case ">":
			text, value = "&gt;", "&gt;"
		case `"`:
			value = "&quot;"
		}
		attrs := []api.Attr{{Name: "k", Value: c + "x" + c}}
		checkWrite(t, []api.Event{{Kind: api.KindText, Text: c + "x" + c}}, text+"x"+text)
		checkWrite(t, []api.Event{{Kind: api.KindStart, Name: "b", Attrs: attrs}}, `<b k="`+value+"x"+value+`">`)
	}
}

func TestNoBreakSpaceWritten(t *testing.T) {
	for in, want := range map[string]string{
		"\xc2\xa0":             "&nbsp;",
		"\xc2":                 "\xc2",
		"\xa0":                 "\xa0",
		"\xa0\xc2":             "\xa0\xc2",
		"\xc2\xc2\xa0\xa0":     "\xc2&nbsp;\xa0",
		"\xe1\xc2\xa0\xf0\x90": "\xe1&nbsp;\xf0\x90",
		"\xc2x\xa0":            "\xc2x\xa0",
		"\u20ac\xff\xed\xa0":   "\u20ac\xff\xed\xa0",
		"&nbsp;":               "&amp;nbsp;",
	} {
		attrs := []api.Attr{{Name: "k", Value: in}}
		checkWrite(t, []api.Event{{Kind: api.KindText, Text: in}}, want)
		checkWrite(t, []api.Event{{Kind: api.KindStart, Name: "b", Attrs: attrs}}, `<b k="`+want+`">`)
	}
	// In two Texts the two bytes are not side by side in either.
	checkWrite(t, eventtest.Read("[\xc2][\xa0]"), "\xc2\xa0")
}

func TestNewlineGuard(t *testing.T) {
	for in, want := range map[string]string{
		"<pre>[\n]":                 "<pre>\n\n",
		"<pre>[\nx]</pre>":          "<pre>\n\nx</pre>",
		"<pre>[\n\n]":               "<pre>\n\n\n",
		"<textarea>[\nx]":           "<textarea>\n\nx",
		"<pre id=1>[\n]":            "<pre id=\"1\">\n\n",
		"<pre>[][][\n]":             "<pre>\n\n",
		"<pre>?[\n]":                "<pre>\n\n",
		"<pre>[]?[]??[\n][\n]":      "<pre>\n\n\n",
		"<pre><pre>[\n]":            "<pre><pre>\n\n",
		"<textarea>[]?[\n]</a>[\n]": "<textarea>\n\n</a>\n",
		"<pre>[x\n]":                "<pre>x\n",
		"<pre>[x][\n]":              "<pre>x\n",
		"<pre>[ ][\n]":              "<pre> \n",
		"<pre>[\r\n]":               "<pre>\r\n",
		"<pre>[]":                   "<pre>",
		"<pre>":                     "<pre>",
		"<pre></pre>[\n]":           "<pre></pre>\n",
		"<pre></b>[\n]":             "<pre></b>\n",
		"<pre><br>[\n]":             "<pre><br>\n",
		"<pre><b>[\n]":              "<pre><b>\n",
		"<pre></>[\n]":              "<pre></>\n",
		"<pre><>[\n]":               "<pre><>\n",
		"</pre>[\n]":                "</pre>\n",
		"[\n]<pre>":                 "\n<pre>",
		"<p>[\n]<PRE>[\n]":          "<p>\n<PRE>\n",
		"<listing>[\n]<xmp>[\n]":    "<listing>\n<xmp>\n",
		"<pre>[\n]<pre>[\n]":        "<pre>\n\n<pre>\n\n",
	} {
		checkWrite(t, eventtest.Read(in), want)
	}
}

// modelWrite writes by the words of 7.1: for each Start it looks ahead.
func modelWrite(events []api.Event) string {
	var parts []string
	escape := strings.NewReplacer("&", "&amp;", "<", "&lt;", ">", "&gt;", "\u00a0", "&nbsp;")
	escapeValue := strings.NewReplacer("&", "&amp;", "<", "&lt;", ">", "&gt;", "\u00a0", "&nbsp;", `"`, "&quot;")
	for i, e := range events {
		switch e.Kind {
		case api.KindStart:
			parts = append(parts, "<", e.Name)
			for _, a := range e.Attrs {
				parts = append(parts, " ", a.Name, `="`, escapeValue.Replace(a.Value), `"`)
			}
			parts = append(parts, ">")
			if (e.Name == "pre" || e.Name == "textarea") && strings.HasPrefix(textBehind(events[i+1:]), "\n") {
				parts = append(parts, "\n")
			}
		case api.KindEnd:
			parts = append(parts, "</", e.Name, ">")
		case api.KindText:
			parts = append(parts, escape.Replace(e.Text))
		}
	}
	return strings.Join(parts, "")
}

// textBehind is the first Text that is not empty, if no tag stands ahead of it.
func textBehind(events []api.Event) string {
	for _, e := range events {
		switch {
		case e.Kind == api.KindStart, e.Kind == api.KindEnd:
			return ""
		case e.Kind == api.KindText && e.Text != "":
			return e.Text
		}
	}
	return ""
}

// randomStream makes events of all kinds, nested by chance alone.
func randomStream(random *rand.Rand) []api.Event {
	names := []string{"pre", "textarea", "p", "b", "br", "td", "", "A<"}
	texts := []string{"", "", "\n", "\nx", "x", "\"<&>\u00a0", "\xc2", "\xa0", "&amp;"}
	var events []api.Event
	for range random.Intn(16) {
		e := api.Event{Kind: random.Intn(5), Name: names[random.Intn(len(names))], Text: texts[random.Intn(len(texts))]}
		for range random.Intn(3) {
			value := texts[random.Intn(len(texts))] + texts[random.Intn(len(texts))]
			e.Attrs = append(e.Attrs, api.Attr{Name: names[random.Intn(len(names))], Value: value})
		}
		events = append(events, e)
	}
	return events
}

func TestWriteAgainstModel(t *testing.T) {
	random := rand.New(rand.NewSource(21))
	for range 100000 {
		events := randomStream(random)
		if checkWrite(t, events, modelWrite(events)); t.Failed() {
			return
		}
	}
}

// P11: Unref gives back what Write escapes.
func TestUnrefUndoesEscaping(t *testing.T) {
	parts := []string{
		"&", "&amp;", "&amp", "amp;", "&lt", "lt;", ";", "#38;", "#", "x26", "&#", "&not", "it;", "=", "a", "1", "<", ">", "\"", "'", "\u00a0",
		"\xc2", "\xa0", "\n", "\r", "\x00", "\xff", "nbsp;", "&quot;", "\u20ac",
	}
	random := rand.New(rand.NewSource(22))
	for range 200000 {
		var s string
		for range random.Intn(8) {
			s += parts[random.Intn(len(parts))]
		}
		text := markup.Write([]api.Event{{Kind: api.KindText, Text: s}})
		tag := markup.Write([]api.Event{{Kind: api.KindStart, Name: "b", Attrs: []api.Attr{{Name: "k", Value: s}}}})
		value := strings.TrimSuffix(strings.TrimPrefix(tag, `<b k="`), `">`)
		if chars.Unref(text, false) != s || chars.Unref(value, true) != s {
			t.Fatalf("%q is written as %q and %q", s, text, value)
		}
		if strings.ContainsAny(text, "<>") || strings.ContainsAny(value, "<>\"") {
			t.Fatalf("%q and %q have signs that are not escaped", text, value)
		}
	}
}

// A text of many pieces takes no longer than its length asks.
func TestWriteOfManyPieces(t *testing.T) {
	events := make([]api.Event, 1000000)
	for i := range events {
		events[i] = api.Event{Kind: api.KindText, Text: "<"}
	}
	if got := markup.Write(events); got != strings.Repeat("&lt;", len(events)) {
		t.Errorf("Write gives %d bytes", len(got))
	}
}
