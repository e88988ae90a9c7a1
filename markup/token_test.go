package markup_test

import (
	"fmt"
	"strings"
	"testing"

	"scrub/api"
	"scrub/eventtest"
	"scrub/markup"
)

func checkParsed(t *testing.T, text string, want api.Parsed) {
	t.Helper()
	got := markup.Parse(text)
	if got.Verdict != want.Verdict || !eventtest.SameNodes(got.Nodes, want.Nodes) {
		t.Errorf("Parse(%.200q) = %d, %.200s, want %d, %.200s", text,
			got.Verdict, eventtest.ShowNodes(got.Nodes), want.Verdict, eventtest.ShowNodes(want.Nodes))
	}
}

// checkTree looks at a text that is accepted.
func checkTree(t *testing.T, text, tree string) {
	t.Helper()
	checkParsed(t, text, api.Parsed{Nodes: eventtest.ReadNodes(tree)})
}

// checkVerdict looks at a text that is rejected. It has no nodes then.
func checkVerdict(t *testing.T, text string, verdict int) {
	t.Helper()
	checkParsed(t, text, api.Parsed{Verdict: verdict})
}

func TestFormsOfTokens(t *testing.T) {
	for text, tree := range map[string]string{
		"":                                   "",
		"x":                                  "[x]",
		"a > b\"'=/\t\n\f~":                  "[a > b\"'=/\t\n\f~]",
		"<b></b>":                            "<b>",
		"<b>x</b>y":                          "<b>.[x][y]",
		"<br>x<hr>":                          "<br>[x]<hr>",
		"<h1></h1>":                          "<h1>",
		`<b id="x"></b>`:                     "<b id=x>",
		`<b id=""></b>`:                      "<b id=>",
		`<b id="x" lang="y" dir=""></b>`:     "<b id=x lang=y dir=>",
		`<b x="1" z-9-="2" a0="3"></b>`:      "<b x=1 z-9-=2 a0=3>",
		`<b onclick="evil()" style="x"></b>`: "<b onclick=evil() style=x>",
		`<br id="/'=<b">`:                    "<br id=/'=<b>",
		"<b><i>x</i></b>":                    "<b>.<i>..[x]",
	} {
		checkTree(t, text, tree)
	}
	value := api.Node{Name: "b", Attrs: []api.Attr{{Name: "id", Value: "a b >\n</b>"}, {Name: "lang", Value: "="}}}
	checkParsed(t, "<b id=\"a b >\n</b>\" lang=\"=\"></b>", api.Parsed{Nodes: []api.Node{value}})
}

// Each row is a tag that misses its form by one thing.
func TestMissedForms(t *testing.T) {
	for _, tag := range []string{
		"<", "<>", "< b>", "<1>", "<B>", "<bR>", "<b-r>", "<b_>", "<\xe9>", "<b\xff>", "<b\u00e9>", "<-b>", "<=>", "<<b>", "<\">", "<&amp;>",
		"<b", "<b ", "<b >", "<b\n>", "<b\t>", "<b/>", "<b />", "<br/>", "<b<b>", "<b'>", "<b\x00>",
		"<b id>", "<b id=>", "<b id=x>", "<b id='x'>", "<b id=\"x>", "<b id=\"x", "<b id=\"", "<b id=", "<b id", "<b i", "<b id ", "<b id=\"x\"",
		"<b =\"x\">", "<b \"x\">", "<b id =\"x\">", "<b id= \"x\">", "<b  id=\"x\">", "<b\nid=\"x\">", "<b\tid=\"x\">", "<b/id=\"x\">",
		"<b id=\"x\" >", "<b id=\"x\"/>", "<b id=\"x\"lang=\"y\">", "<b id=\"x\"  lang=\"y\">", "<b id=\"x\" lang>", "<b id=\"x\" lang=\"y>", "<b id=\"x\"\">",
		"<b ID=\"x\">", "<b iD=\"x\">", "<b 1d=\"x\">", "<b -d=\"x\">", "<b i_d=\"x\">", "<b i:d=\"x\">", "<b i.d=\"x\">", "<b \xe9=\"x\">", "<b i\u00e9=\"x\">",
		"<b id=\"x\" \"\">", "<bid=\"x\">", "<b,id=\"x\">",
		"</", "</>", "</ b>", "</1>", "</B>", "</bR>", "</b-r>", "</b", "</b ", "</b >", "</b\n>", "</b/>", "</b id=\"x\">", "</b<>", "</\xff>", "<//b>",
		"<!", "<!>", "<!-- -->", "<!---->", "<!DOCTYPE html>", "<?", "<?x?>", "<![CDATA[x]]>",
	} {
		checkVerdict(t, tag, api.RejectToken)
		checkVerdict(t, "x"+tag, api.RejectToken)
		checkVerdict(t, "<b>"+tag, api.RejectToken)
		checkVerdict(t, "<b>"+tag+"</b>", api.RejectToken)
		checkVerdict(t, tag+"x", api.RejectToken)
	}
}

// What is the front of a tag alone is no tag.
func TestTagsCutOff(t *testing.T) {
	for _, tag := range []string{`<b id="x" lang="&lt;&nbsp;">`, "</textarea>", "<h1>", `<img src="">`} {
		for end := 1; end < len(tag); end++ {
			checkVerdict(t, tag[:end], api.RejectToken)
			checkVerdict(t, "<p></p>x"+tag[:end], api.RejectToken)
		}
	}
}

// The border cases of what is a good character.
func TestUnitsThatAreCharacters(t *testing.T) {
	right := []rune{
		0x09, 0x0A, 0x0C, 0x20, 0x21, 0x25, 0x27, 0x3B, 0x3D, 0x3E, 0x7E, 0xA0, 0xA1, 0xD7FF, 0xE000, 0xFDCF, 0xFDF0, 0xFFFC, 0xFFFD,
		0x10000, 0x1FFFD, 0x20000, 0xEFFFD, 0x10FFFD,
	}
	wrong := []rune{
		0x00, 0x01, 0x08, 0x0B, 0x0D, 0x0E, 0x1F, 0x7F, 0x80, 0x85, 0x9F, 0xFDD0, 0xFDEF, 0xFFFE, 0xFFFF, 0x1FFFE, 0x1FFFF, 0x10FFFE, 0x10FFFF,
	}
	for _, char := range right {
		s := string(char)
		checkParsed(t, "x"+s+s+"y", api.Parsed{Nodes: []api.Node{{Text: "x" + s + s + "y"}}})
		attrs := []api.Attr{{Name: "id", Value: s + "x" + s}}
		checkParsed(t, `<br id="`+s+"x"+s+`">`, api.Parsed{Nodes: []api.Node{{Name: "br", Attrs: attrs}}})
	}
	var bad []string
	for _, char := range wrong {
		bad = append(bad, string(char))
	}
	bad = append(bad, "\x80", "\xbf", "\xc2", "\xa0", "\xc0\x80", "\xc1\xbf", "\xe2\x82", "\xe0\x80\x80", "\xe0\x9f\xbf", "\xed\xa0\x80", "\xed\xbf\xbf",
		"\xf0\x80\x80\x80", "\xf0\x9f\x92", "\xf4\x90\x80\x80", "\xf5\x80\x80\x80", "\xfe", "\xff", "\xef\xbf", "\xc2\u00a0", "\u00e9\xa9", "\r\n")
	for _, s := range bad {
		for _, form := range []string{"%s", "x%s", "%sx", "<b>%s</b>", `<br id="%s">`, `<br id="x%sx">`, "<textarea>%s</textarea>", "\ufffd%s"} {
			checkVerdict(t, fmt.Sprintf(form, s), api.RejectToken)
		}
	}
}

func TestUnitsThatAreReferences(t *testing.T) {
	for raw, char := range map[string]string{
		"&amp;": "&", "&lt;": "<", "&gt;": ">", "&quot;": "\"", "&nbsp;": "\u00a0",
		"&amp;lt;": "&lt;", "&amp;amp;amp;": "&amp;amp;", "&lt;&lt;": "<<", "&nbsp;;": "\u00a0;", "&quot;&amp;x&gt;": "\"&x>",
	} {
		checkParsed(t, raw, api.Parsed{Nodes: []api.Node{{Text: char}}})
		checkParsed(t, "x"+raw+"y", api.Parsed{Nodes: []api.Node{{Text: "x" + char + "y"}}})
		checkParsed(t, "<textarea>"+raw+"</textarea>", api.Parsed{Nodes: []api.Node{{Name: "textarea"}, {Depth: 1, Text: char}}})
		attrs := []api.Attr{{Name: "id", Value: "x" + char}}
		checkParsed(t, `<br id="x`+raw+`">`, api.Parsed{Nodes: []api.Node{{Name: "br", Attrs: attrs}}})
	}
	for _, raw := range []string{
		"&", "&&", "& ", "&;", "&amp", "&am", "&a", "&AMP;", "&Amp;", "&LT;", "&QUOT;", "&lt", "&gt ", "&nbs", "&nbsp", "&apos;", "&copy;", "&not;", "&notin;",
		"&#38;", "&#x26;", "&#", "&#;", "&amp&amp;", "&amp;&", "&lt;&gt", "&quot", "&NewLine;", "&Tab;", "&x", "&=", "& amp;", "&amp ;", "&\u00a0",
	} {
		for _, form := range []string{"%s", "x%s", "%sx", "<b>%s</b>", `<br id="%s">`, `<br id="%sx">`, "<textarea>%s</textarea>"} {
			checkVerdict(t, fmt.Sprintf(form, raw), api.RejectToken)
		}
	}
}

func TestAttributesTwice(t *testing.T) {
	for _, tag := range []string{
		`<b id="x" id="x">`, `<b id="x" id="y">`, `<b id="" lang="" id="">`, `<b a="" c="" b="" c="">`, `<br z-1="" z-1="">`, `<b id="&lt;" id="<">`,
		`<foo id="" id="">`, `<td id="" id="">`, `<script id="" id="">`,
		`<b` + strings.Repeat(` id=""`, 40) + `>`,
	} {
		checkVerdict(t, tag, api.RejectTwice)
		checkVerdict(t, "x"+tag+"</b><", api.RejectTwice)
	}
	// A tag that is not right is none that names an attribute twice.
	for _, tag := range []string{
		`<b id="" id="" >`, `<b id="" id=""`, `<b id="" id="" x>`, `<b id="" id="&">`, `<b id="&" id="">`, `<b id="" id="" lang="` + "\r" + `">`, `<B id="" id="">`, `</b id="" id="">`,
	} {
		checkVerdict(t, tag, api.RejectToken)
	}
	checkTree(t, `<b id="x" i="y" d="id" idd="x"></b>`, "<b id=x i=y d=id idd=x>")
	checkTree(t, `<b id="x"><i id="x"></i></b>`, "<b id=x>.<i id=x>")
}

// A tag can have any number of attributes, in their order.
func TestManyAttributes(t *testing.T) {
	node := api.Node{Name: "br"}
	var tag strings.Builder
	tag.WriteString("<br")
	for i := range 100000 {
		attr := api.Attr{Name: fmt.Sprint("x", (i*7919)%100000), Value: fmt.Sprint(i)}
		node.Attrs = append(node.Attrs, attr)
		tag.WriteString(" " + attr.Name + `="` + attr.Value + `"`)
	}
	checkParsed(t, tag.String()+">", api.Parsed{Nodes: []api.Node{node}})
	checkVerdict(t, tag.String()+` x50000="">`, api.RejectTwice)
}
