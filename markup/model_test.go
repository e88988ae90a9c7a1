package markup_test

import (
	"math/rand"
	"regexp"
	"slices"
	"strings"
	"testing"
	"unicode/utf8"

	"scrub/api"
	"scrub/eventtest"
	"scrub/markup"
)

// The forms of 8.1.
var (
	startForm = regexp.MustCompile(`^<([a-z][a-z0-9]*)((?: [a-z][a-z0-9-]*="[^"]*")*)>`)
	attrForm  = regexp.MustCompile(` ([a-z][a-z0-9-]*)="([^"]*)"`)
	endForm   = regexp.MustCompile(`^</([a-z][a-z0-9]*)>`)
	textForm  = regexp.MustCompile(`^[^<]+`)
	unitForm  = regexp.MustCompile(`&(?:amp|lt|gt|quot|nbsp);|&`)
)

// modelDecode decodes what is made of units alone.
func modelDecode(raw string) (decoded string, right bool) {
	if !utf8.ValidString(raw) {
		return "", false
	}
	for _, char := range raw {
		isControl := char < 0x20 && char != 0x09 && char != 0x0A && char != 0x0C || 0x7F <= char && char <= 0x9F
		isNone := 0xFDD0 <= char && char <= 0xFDEF || char%0x10000 >= 0xFFFE
		if isControl || isNone {
			return "", false
		}
	}
	if slices.Contains(unitForm.FindAllString(raw, -1), "&") {
		return "", false
	}
	return strings.NewReplacer("&amp;", "&", "&lt;", "<", "&gt;", ">", "&quot;", `"`, "&nbsp;", "\u00a0").Replace(raw), true
}

// modelParser goes by the words of chapter 8, by names alone.
type modelParser struct {
	open  []string
	nodes []api.Node
	last  string // the start tag's name if the last token is one
}

func modelParse(text string) api.Parsed {
	var m modelParser
	for text != "" {
		length, verdict := m.token(text)
		if verdict != api.Accepted {
			return api.Parsed{Verdict: verdict}
		}
		text = text[length:]
	}
	if len(m.open) > 0 {
		return api.Parsed{Verdict: api.RejectOpen}
	}
	return api.Parsed{Nodes: m.nodes}
}

func (m *modelParser) token(text string) (length, verdict int) {
	if found := textForm.FindString(text); found != "" {
		decoded, right := modelDecode(found)
		if !right {
			return 0, api.RejectToken
		}
		return len(found), m.text(decoded)
	}
	if found := endForm.FindStringSubmatch(text); found != nil {
		return len(found[0]), m.end(found[1])
	}
	found := startForm.FindStringSubmatch(text)
	if found == nil {
		return 0, api.RejectToken
	}
	var attrs []api.Attr
	twice := false
	for _, attr := range attrForm.FindAllStringSubmatch(found[2], -1) {
		value, right := modelDecode(attr[2])
		if !right {
			return 0, api.RejectToken
		}
		twice = twice || slices.ContainsFunc(attrs, func(a api.Attr) bool { return a.Name == attr[1] })
		attrs = append(attrs, api.Attr{Name: attr[1], Value: value})
	}
	if twice {
		return 0, api.RejectTwice
	}
	return len(found[0]), m.start(found[1], attrs)
}

func is(name, list string) bool {
	return slices.Contains(strings.Fields(list), name)
}

// outward looks through the open elements from the innermost on for one of the
// first list. Those of the second list are passed over, any other ends it.
func (m *modelParser) outward(list string, passes func(string) bool) string {
	for _, name := range slices.Backward(m.open) {
		if is(name, list) {
			return name
		}
		if !passes(name) {
			return ""
		}
	}
	return ""
}

func (m *modelParser) innermost() string {
	return m.outward(allNames, func(string) bool { return false })
}

const tableNames = "table tbody tfoot thead tr td th"

func (m *modelParser) table() string {
	return m.outward(tableNames, func(string) bool { return true })
}

func (m *modelParser) start(name string, attrs []api.Attr) int {
	switch {
	case m.innermost() == "textarea":
		return api.RejectToken
	case !is(name, allNames):
		return api.RejectElement
	case len(m.open) == 256:
		return api.RejectDepth
	}
	verdict := m.inTable(name)
	if verdict < 0 {
		verdict = m.last5(name)
	}
	if verdict != api.Accepted {
		return verdict
	}
	m.nodes = append(m.nodes, api.Node{Depth: len(m.open), Name: name, Attrs: attrs})
	if !is(name, "br hr img") {
		m.open = append(m.open, name)
	}
	m.last = name
	return api.Accepted
}

// inTable is step 4. It answers -1 where step 5 goes on.
func (m *modelParser) inTable(name string) int {
	may, implied := "", ""
	switch m.table() {
	case "":
		if is(name, "tbody tfoot thead tr td th") {
			return api.RejectStray
		}
		return -1
	case "td", "th":
		if is(name, "tbody tfoot thead tr td th") {
			return api.RejectImplied
		}
		return -1
	case "table":
		may, implied = "tbody tfoot thead", "table tr td th"
	case "tr":
		may, implied = "td th", "table tbody tfoot thead tr"
	default:
		may, implied = "tr", "table tbody tfoot thead td th"
	}
	switch {
	case is(name, may):
		return api.Accepted
	case is(name, implied):
		return api.RejectImplied
	}
	return api.RejectFoster
}

// last5 is step 5.
func (m *modelParser) last5(name string) int {
	passedByItem := func(open string) bool { return is(open, "a b code div em i p q s small span strong sub sup u") }
	if name == "li" && m.outward("li", passedByItem) != "" {
		return api.RejectImplied
	}
	passedByFlow := func(open string) bool { return !is(open, "table td th") }
	if is(name, "blockquote div h1 h2 h3 h4 h5 h6 hr li ol p pre table ul") && m.outward("p", passedByFlow) != "" {
		return api.RejectImplied
	}
	if is(name, headings) && is(m.innermost(), headings) {
		return api.RejectImplied
	}
	passedByLink := func(open string) bool { return !is(open, "td th") }
	if name == "a" && m.outward("a", passedByLink) != "" {
		return api.RejectAdoption
	}
	return api.Accepted
}

func (m *modelParser) end(name string) int {
	m.last = ""
	switch {
	case m.innermost() == "textarea" && name != "textarea":
		return api.RejectToken
	case m.innermost() != name:
		return api.RejectClose
	}
	m.open = m.open[:len(m.open)-1]
	return api.Accepted
}

func (m *modelParser) text(text string) int {
	if is(m.last, "pre textarea") && text[0] == '\n' {
		text = text[1:]
	}
	m.last = ""
	if text == "" {
		return api.Accepted
	}
	if is(m.table(), "table tbody tfoot thead tr") && strings.Trim(text, "\t\n\f ") != "" {
		return api.RejectFoster
	}
	m.nodes = append(m.nodes, api.Node{Depth: len(m.open), Text: text})
	return api.Accepted
}

// checkParse holds Parse against the model. What is accepted is looked at again
// as it is written.
func checkParse(t *testing.T, text string) (verdict int) {
	t.Helper()
	want := modelParse(text)
	checkParsed(t, text, want)
	if want.Verdict == api.Accepted {
		checkRounds(t, want.Nodes)
	}
	if t.Failed() {
		t.FailNow()
	}
	return want.Verdict
}

// checkRounds is P4: a tree that was read is written so that it is read again.
func checkRounds(t *testing.T, tree []api.Node) {
	t.Helper()
	text := markup.Serialize(tree)
	for range 3 {
		got := markup.Parse(text)
		if got.Verdict != api.Accepted || !eventtest.SameNodes(got.Nodes, tree) {
			t.Errorf("%s is written as %q and read as %d, %s", eventtest.ShowNodes(tree), text, got.Verdict, eventtest.ShowNodes(got.Nodes))
			return
		}
		again := markup.Serialize(got.Nodes)
		if again != text {
			t.Errorf("%q is written as %q", text, again)
		}
		text = again
	}
}

// Each short row of tokens, inside of what matters to their places, with all
// that is open closed by the way and left open.
func TestParseOfShortRowsAgainstModel(t *testing.T) {
	tokens := strings.Split("<a>|<b>|<br>|<textarea>|<p>|<div>|<h2>|<pre>|<hr>|<ul>|<li>|<table>|<tbody>|<tr>|<td>|<foo>|x|\n| |&lt;|&|</a>|</b>|</li>|</p>|</pre>|</textarea>|</table>|</td>", "|")
	verdicts := map[int]int{}
	var each func(text string, left int)
	each = func(text string, left int) {
		verdicts[checkParse(t, text)]++
		verdicts[checkParse(t, text+modelClosing(text))]++
		if left == 0 {
			return
		}
		for _, token := range tokens {
			each(text+token, left-1)
		}
	}
	each("", 3)
	each("<table><tbody><tr><td>", 2)
	each("<table><tbody>", 2)
	each("<ul><li><div><b>", 2)
	each("<a><table><thead><tr><th><p>", 2)
	for verdict := api.Accepted; verdict <= api.RejectOpen; verdict++ {
		// No row names an attribute twice or is deep.
		if verdicts[verdict] == 0 && verdict != api.RejectTwice && verdict != api.RejectDepth {
			t.Errorf("no row has the verdict %d", verdict)
		}
	}
}

// modelClosing closes what is open behind a text that the model takes.
func modelClosing(text string) string {
	var m modelParser
	for text != "" {
		length, verdict := m.token(text)
		if verdict != api.Accepted {
			return ""
		}
		text = text[length:]
	}
	var ends string
	for _, name := range m.open {
		ends = "</" + name + ">" + ends
	}
	return ends
}

// pieces are what random texts are made of, besides tags.
var pieces = []string{
	"x", "\n", "\n", " ", "\t ", "&amp;", "&lt;x", "&nbsp;", "\"", "'>", "\u00e9\ufffd", "&", "&amp", "\r", "\x00", "\xff", "\ufdd0", "<", "</", "<!", "<b ", ">",
	"<br>", "<foo>", "</foo>", "<b id=\"\" id=\"\">",
}

// randomTag makes a start tag, with attributes now and then.
func randomTag(random *rand.Rand, names []string) string {
	tag := "<" + names[random.Intn(len(names))]
	for range max(random.Intn(6)-3, 0) {
		value := pieces[random.Intn(11)] + pieces[random.Intn(11)]
		tag += " " + []string{"id", "lang", "x-1"}[random.Intn(3)] + `="` + strings.ReplaceAll(value, `"`, "&quot;") + `"`
	}
	return tag + ">"
}

// randomMarkup makes a text. Most of what would have it rejected is left out, so
// that long texts are accepted too.
func randomMarkup(random *rand.Rand, names []string) string {
	text := ""
	for range random.Intn(30) {
		piece := randomTag(random, names)
		switch random.Intn(5) {
		case 0, 1:
			if ends := modelClosing(text); ends != "" {
				piece = ends[:strings.Index(ends, ">")+1]
			}
		case 2:
			piece = pieces[random.Intn(len(pieces))]
		}
		got := markup.Parse(text + piece)
		if got.Verdict == api.Accepted || got.Verdict == api.RejectOpen || random.Intn(200) == 0 {
			text += piece
		}
	}
	if random.Intn(8) > 0 {
		text += modelClosing(text)
	}
	return text
}

func TestParseAgainstModel(t *testing.T) {
	random := rand.New(rand.NewSource(25))
	sets := [][]string{
		strings.Fields(allNames),
		strings.Fields("table tbody thead tr td th b li ul a p"),
		strings.Fields("ul ol li p b a div br h1 h2 pre"),
		strings.Fields("pre textarea b p table td tbody tr"),
	}
	accepted := 0
	for i := range 8000 {
		text := randomMarkup(random, sets[i%len(sets)])
		if checkParse(t, text) == api.Accepted {
			accepted++
		}
		// One byte is taken out, put in or turned: most of these are rejected.
		at := random.Intn(len(text) + 1)
		signs := "<>/=\"&; \n\rpba1-x\x00\x80\xc2"
		sign := signs[random.Intn(len(signs)):][:1]
		checkParse(t, text[:at]+sign+text[at:])
		if at < len(text) {
			checkParse(t, text[:at]+text[at+1:])
			checkParse(t, text[:at]+sign+text[at+1:])
			checkParse(t, text[:at])
		}
	}
	if accepted < 4000 {
		t.Errorf("%d texts are accepted", accepted)
	}
}

func TestParseOfAnyBytesAgainstModel(t *testing.T) {
	random := rand.New(rand.NewSource(26))
	signs := "<<<///>>>\"\"==  bbpiad&;\n-\r\x00\x80\xc2\xa0"
	for range 200000 {
		var text strings.Builder
		for range random.Intn(12) {
			text.WriteByte(signs[random.Intn(len(signs))])
		}
		checkParse(t, text.String())
	}
}

// A long text takes no longer than its length asks.
func TestParseOfLongTexts(t *testing.T) {
	for _, piece := range []string{"x", "&amp;", "<br>", "<b></b>", "<pre>\n</pre>", "<table><tbody><tr><td>x</td></tr></tbody></table>", `<b id="x">y</b>`, `<br id="&lt;">`} {
		text := strings.Repeat(piece, 100000)
		if got := markup.Parse(text); got.Verdict != api.Accepted {
			t.Errorf("many times %s: verdict %d", piece, got.Verdict)
		}
		checkVerdict(t, text+"<", api.RejectToken)
	}
	checkVerdict(t, strings.Repeat(`<b id="`, 300000), api.RejectToken)
}
