package markup_test

import (
	"slices"
	"strings"
	"testing"

	"scrub/api"
	"scrub/markup"
)

const allNames = "a b code em i q s small span strong sub sup u br img textarea h1 h2 h3 h4 h5 h6 p pre blockquote div hr ol ul table li tbody tfoot thead tr td th"

func isVoid(name string) bool {
	return slices.Contains([]string{"br", "hr", "img"}, name)
}

// closing closes all that some start tags open.
func closing(tags string) string {
	var ends string
	for _, tag := range strings.Split(tags, "<")[1:] {
		if name := strings.TrimSuffix(tag, ">"); !isVoid(name) {
			ends = "</" + name + ">" + ends
		}
	}
	return ends
}

// checkInside holds the verdict on a start tag inside of open elements.
func checkInside(t *testing.T, open, name string, want int) {
	t.Helper()
	text := open + "<" + name + ">"
	if got := markup.Parse(text + closing(text)); got.Verdict != want || want != api.Accepted && len(got.Nodes) != 0 {
		t.Errorf("Parse(%.200s) = %d, want %d", text+closing(text), got.Verdict, want)
	}
	if want != api.Accepted {
		return
	}
	nodes := markup.Parse(text + closing(text)).Nodes
	depth := strings.Count(open, "<")
	if len(nodes) != depth+1 || nodes[depth].Name != name || nodes[depth].Depth != depth {
		t.Errorf("Parse(%.200s) gives %d nodes", text+closing(text), len(nodes))
	}
	// Left open, it is rejected at the end alone.
	if !isVoid(name) || depth > 0 {
		checkVerdict(t, text, api.RejectOpen)
	}
}

// places holds for each verdict other than Accepted the names of the start tags
// that get it. Each name that is in none of these lists is accepted.
type places struct {
	open                             string
	stray, implied, adoption, foster string
}

const (
	parts    = " tbody tfoot thead tr td th"
	flow     = " h1 h2 h3 h4 h5 h6 p pre blockquote div hr ol ul table"
	headings = " h1 h2 h3 h4 h5 h6"
)

// without is all names but those in the list.
func without(list string) string {
	var left []string
	for _, name := range strings.Fields(allNames) {
		if !slices.Contains(strings.Fields(list), name) {
			left = append(left, name)
		}
	}
	return strings.Join(left, " ")
}

func checkPlaces(t *testing.T, rows []places) {
	t.Helper()
	for _, row := range rows {
		for _, name := range strings.Fields(allNames) {
			want := api.Accepted
			for verdict, list := range map[int]string{
				api.RejectStray: row.stray, api.RejectImplied: row.implied, api.RejectAdoption: row.adoption, api.RejectFoster: row.foster,
			} {
				if slices.Contains(strings.Fields(list), name) {
					want = verdict
				}
			}
			checkInside(t, row.open, name, want)
		}
	}
}

// Step 4: each entry of the table of 8.2.
func TestPlacesInTables(t *testing.T) {
	const cell = "<table><tbody><tr><td>"
	sections, row, cells := "tbody tfoot thead", "tr", "td th"
	var rows []places
	for _, around := range []string{"", "<div>", "<ul><li>", "<a>", cell, cell + "<div>"} {
		rows = append(rows, places{open: around + "<table>", implied: "table tr td th", foster: without("table" + parts)})
		for _, section := range strings.Fields(sections) {
			in := around + "<table><" + section + ">"
			rows = append(rows, places{open: in, implied: "table " + sections + " " + cells, foster: without("table" + parts)},
				places{open: in + "<tr>", implied: "table " + sections + " " + row, foster: without("table" + parts)})
		}
	}
	for _, section := range strings.Fields(sections) {
		for _, cell := range strings.Fields(cells) {
			in := "<table><" + section + "><tr><" + cell + ">"
			rows = append(rows, places{open: in, implied: parts}, places{open: in + "<div>", implied: parts}, places{open: in + "<b>", implied: parts})
		}
	}
	checkPlaces(t, rows)
}

// Step 4, where no table element is open.
func TestPlacesOutsideOfTables(t *testing.T) {
	checkPlaces(t, []places{
		{open: "", stray: parts},
		{open: "<div>", stray: parts},
		{open: "<blockquote>", stray: parts},
		{open: "<ul>", stray: parts},
		{open: "<ol>", stray: parts},
		{open: "<b>", stray: parts},
		{open: "<pre>", stray: parts},
		{open: "<a>", stray: parts, adoption: "a"},
	})
}

// Step 5: what an open p, li, heading or a rejects.
func TestPlacesOfFlow(t *testing.T) {
	const cell = "<table><tbody><tr><th>"
	checkPlaces(t, []places{
		// An li ends the search at an li; some elements are passed over.
		{open: "<li>", stray: parts, implied: "li"},
		{open: "<ul><li>", stray: parts, implied: "li"},
		{open: "<li><div>", stray: parts, implied: "li"},
		{open: "<li><a><b><code><em><i><q><s><small><span><strong><sub><sup><u>", stray: parts, implied: "li", adoption: "a"},
		{open: "<li><div><u><div>", stray: parts, implied: "li"},
		{open: "<li><ul>", stray: parts},
		{open: "<li><ol>", stray: parts},
		{open: "<li><blockquote>", stray: parts},
		{open: "<li><pre>", stray: parts},
		{open: "<li><h1>", stray: parts, implied: headings},
		{open: "<li><h1><b>", stray: parts},
		{open: "<li><blockquote><div>", stray: parts},
		{open: "<li>" + cell, implied: parts},
		{open: "<li><ul><b><div>", stray: parts},
		{open: "<li><ul><li>", stray: parts, implied: "li"},

		// A p, whatever is open inside it but a table, td or th.
		{open: "<p>", stray: parts, implied: flow + " li"},
		{open: "<p><b>", stray: parts, implied: flow + " li"},
		{open: "<div><p><b><i><span>", stray: parts, implied: flow + " li"},
		{open: "<li><p>", stray: parts, implied: flow + " li"},
		{open: "<p><a>", stray: parts, implied: flow + " li", adoption: "a"},
		{open: cell + "<p>", implied: parts + flow + " li"},
		{open: cell + "<div><p>", implied: parts + flow + " li"},

		// A heading right inside of a heading.
		{open: "<h1>", stray: parts, implied: headings},
		{open: "<h2>", stray: parts, implied: headings},
		{open: "<h3>", stray: parts, implied: headings},
		{open: "<h4>", stray: parts, implied: headings},
		{open: "<h5>", stray: parts, implied: headings},
		{open: "<h6>", stray: parts, implied: headings},
		{open: "<h1><b>", stray: parts},
		{open: "<h1><div>", stray: parts},

		// An a, whatever is open inside it but a td or th.
		{open: "<a><b>", stray: parts, adoption: "a"},
		{open: "<a><div><ul><li><pre><h1>", stray: parts, implied: headings, adoption: "a"},
		{open: "<a>" + cell, implied: parts},
		{open: "<a><table><tbody><tr><td>", implied: parts},
		{open: "<a>" + cell + "<a>", implied: parts, adoption: "a"},
		{open: "<a>" + cell + "<div>", implied: parts},
	})
}

// What is closed is in nobody's way.
func TestPlacesBehindEnds(t *testing.T) {
	checkTree(t, "<p></p><p></p><a></a><a></a><h1></h1><h2></h2><li></li><li></li>", "<p><p><a><a><h1><h2><li><li>")
	checkTree(t, "<table><thead><tr><td></td><th></th></tr><tr></tr></thead><tbody></tbody><tfoot></tfoot><tbody></tbody></table><table></table>",
		"<table>.<thead>..<tr>...<td>...<th>..<tr>.<tbody>.<tfoot>.<tbody><table>")
	checkTree(t, "<div><p>a</p><p>b</p><hr>c</div>", "<div>.<p>..[a].<p>..[b].<hr>.[c]")
	checkTree(t, "<b><p></p></b><b><i></i></b>", "<b>.<p><b>.<i>")
	checkTree(t, "<p><img></p><hr><br>", "<p>.<img><hr><br>")
	checkTree(t, "<table></table><div></div>", "<table><div>")
	checkVerdict(t, "<table></table><tr>", api.RejectStray)
}

func TestUnknownElements(t *testing.T) {
	for _, name := range []string{
		"foo", "script", "style", "svg", "math", "template", "title", "iframe", "noscript", "noembed", "noframes", "plaintext", "xmp", "form", "input", "select",
		"caption", "col", "colgroup", "dl", "dd", "h7", "h", "h10", "bb", "image", "body", "html", "head", "x9", "ta", "tables", "t",
	} {
		for _, open := range []string{"", "<div>", "<table>", "<table><tbody>", "<table><tbody><tr>", "<table><tbody><tr><td>", "<p>"} {
			checkInside(t, open, name, api.RejectElement)
			checkInside(t, open, name+` id=""`, api.RejectElement)
		}
		checkVerdict(t, "</"+name+">", api.RejectClose)
	}
}

// A token's form is looked at ahead of its place, whatever that is.
func TestFormAheadOfPlace(t *testing.T) {
	deep := strings.Repeat("<div>", api.MaxDepth-1)
	for text, want := range map[string]int{
		`<textarea><p id="" id="">`:      api.RejectTwice,
		`<foo id="" id="">`:              api.RejectTwice,
		deep + `<b><b id="" id="">`:      api.RejectTwice,
		`<tr id="" id="">`:               api.RejectTwice,
		`<p><p id="" id="">`:             api.RejectTwice,
		`<a><a id="" id="">`:             api.RejectTwice,
		`<table><b id="" id="">`:         api.RejectTwice,
		"<foo id=x>":                     api.RejectToken,
		"<tr id=x>":                      api.RejectToken,
		"<p><p/>":                        api.RejectToken,
		"<table>&":                       api.RejectToken,
		"<table>x\r":                     api.RejectToken,
		"</foo >":                        api.RejectToken,
		`<textarea><p id="" id="" lang>`: api.RejectToken,
	} {
		checkVerdict(t, text, want)
	}
}

// The first of the steps that rejects gives the verdict.
func TestStepsInTheirOrder(t *testing.T) {
	deep := strings.Repeat("<div>", api.MaxDepth-1)
	for text, want := range map[string]int{
		// Step 1 ahead of 2, 3 and 5.
		"<textarea><foo>":          api.RejectToken,
		deep + "<textarea><b>":     api.RejectToken,
		"<textarea><tr>":           api.RejectToken,
		"<p><textarea><p>":         api.RejectToken,
		"<textarea><textarea>":     api.RejectToken,
		"<textarea></foo>":         api.RejectToken,
		"<textarea><br>":           api.RejectToken,
		"<div><textarea></div>":    api.RejectToken,
		"<b><textarea></b></foo >": api.RejectToken,

		// Step 2 ahead of 3, 4 and 5.
		deep + "<b><foo>":     api.RejectElement,
		"<table><foo>":        api.RejectElement,
		"<table><tbody><tra>": api.RejectElement,

		// Step 3 ahead of 4 and 5.
		deep + "<b><tr>":        api.RejectDepth,
		deep + "<table><b>":     api.RejectDepth,
		deep + "<table><table>": api.RejectDepth,
		deep + "<p><p>":         api.RejectDepth,
		deep + "<a><a>":         api.RejectDepth,
		deep + "<li><li>":       api.RejectDepth,

		// Step 4 ahead of 5.
		"<p><tr>":                          api.RejectStray,
		"<a><table><a>":                    api.RejectFoster,
		"<li><table><li>":                  api.RejectFoster,
		"<table><tbody><p>":                api.RejectFoster,
		"<a><table><tbody><tr><a>":         api.RejectFoster,
		"<table><tbody><tr><td><p><tr>":    api.RejectImplied,
		"<a><table><tbody><tr><td><a><td>": api.RejectImplied,

		// The first token that is rejected, whatever comes behind it.
		"<p><p><":          api.RejectImplied,
		"<foo>&":           api.RejectElement,
		"<tr></b><foo>":    api.RejectStray,
		"</b><foo>":        api.RejectClose,
		"&<foo>":           api.RejectToken,
		"<b><foo>":         api.RejectElement,
		"<table>x<foo>":    api.RejectFoster,
		"<a><a><p><p>":     api.RejectAdoption,
		`<b id="" id=""><`: api.RejectTwice,
	} {
		checkVerdict(t, text, want)
	}
}

// MaxDepth elements may be open, and no more.
func TestBorderOfDepth(t *testing.T) {
	for _, name := range []string{"div", "b", "blockquote", "span"} {
		full := strings.Repeat("<"+name+">", api.MaxDepth)
		less := full[len(name)+2:]
		ends := strings.Repeat("</"+name+">", api.MaxDepth)
		checkInside(t, less, name, api.Accepted)
		checkInside(t, less, "br", api.Accepted)
		for _, further := range []string{"b", "br", "hr", "img", "div", "textarea", "li"} {
			checkInside(t, full, further, api.RejectDepth)
		}
		parsed := markup.Parse(full + "x" + ends)
		if parsed.Verdict != api.Accepted || len(parsed.Nodes) != api.MaxDepth+1 || parsed.Nodes[api.MaxDepth].Depth != api.MaxDepth {
			t.Errorf("a text inside of %d elements: verdict %d", api.MaxDepth, parsed.Verdict)
		}
		// An element that is closed makes room for another.
		again := full + "</" + name + "><" + name + "></" + name + "><br>" + ends[len(name)+3:]
		if parsed = markup.Parse(again); parsed.Verdict != api.Accepted || len(parsed.Nodes) != api.MaxDepth+2 {
			t.Errorf("room that was made anew: verdict %d", parsed.Verdict)
		}
	}
	cells := strings.Repeat("<table><tbody><tr><td>", api.MaxDepth/4)
	checkInside(t, cells[:len(cells)-len("<td>")], "td", api.Accepted)
	checkInside(t, cells, "table", api.RejectDepth)
}

func TestEndTags(t *testing.T) {
	for text, want := range map[string]int{
		"</b>":                             api.RejectClose,
		"x</b>":                            api.RejectClose,
		"</br>":                            api.RejectClose,
		"</p>":                             api.RejectClose,
		"<br></br>":                        api.RejectClose,
		"<hr></hr>":                        api.RejectClose,
		"<b></i>":                          api.RejectClose,
		"<b></bb>":                         api.RejectClose,
		"<b><i></b></i>":                   api.RejectClose,
		"<div><p></div>":                   api.RejectClose,
		"<div><br></br></div>":             api.RejectClose,
		"<b></b></b>":                      api.RejectClose,
		"<b></foo></b>":                    api.RejectClose,
		"<b></textarea></b>":               api.RejectClose,
		"<table><tbody></table>":           api.RejectClose,
		"<textarea></b>":                   api.RejectToken,
		"<textarea></foo>":                 api.RejectToken,
		"<b><textarea></b>":                api.RejectToken,
		"<textarea>x</p>":                  api.RejectToken,
		"<textarea></textare>":             api.RejectToken,
		"<textarea></textareas>":           api.RejectToken,
		"<textarea></textarea></b>":        api.RejectClose,
		"<textarea></textarea></textarea>": api.RejectClose,
	} {
		checkVerdict(t, text, want)
	}
}

func TestElementsOpenAtTheEnd(t *testing.T) {
	for _, text := range []string{
		"<b>", "<b>x", "<p><b></b>", "<div><div></div>", "<pre>\n", "<textarea>", "<textarea>x", "<table>", "<table> ", "<table><tbody><tr><td>", "<ul><li></li>", "x<h1><br>",
	} {
		checkVerdict(t, text, api.RejectOpen)
	}
	checkTree(t, "x<br>", "[x]<br>")
}
