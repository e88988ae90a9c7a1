package sanitize_test

import (
	"math/rand"
	"slices"
	"strings"
	"testing"

	"scrub/api"
	"scrub/eventtest"
	"scrub/markup"
	"scrub/sanitize"
)

// checkOutput is what P2 to P5 say of the output out of an input.
func checkOutput(t *testing.T, p api.Policy, input string, broken bool, out string) {
	t.Helper()
	tree := markup.Fold(meant(p, input, broken))
	if !sameTree(out, tree) {
		t.Fatalf("of %q under %v %q is written, which is not read as %s", input, p, out, eventtest.ShowNodes(tree))
	}
	for _, n := range tree {
		if fault := faultOf(p, n); fault != "" {
			t.Fatalf("of %q under %v %q is written: %s", input, p, out, fault)
		}
	}
	if !sanitize.Fits(p, tree) {
		t.Fatalf("of %q under %v %q is written, which does not fit", input, p, out)
	}
	if again := markup.Serialize(tree); again != out {
		t.Fatalf("the tree of %q is written as %q", out, again)
	}
	checkClean(t, p, out, out)
}

// faultOf tells what is wrong with a node of an output, by the words of P3.
func faultOf(p api.Policy, n api.Node) string {
	if n.Name == "" {
		return ""
	}
	at := slices.IndexFunc(p.Rules, func(r api.Rule) bool { return r.Name == n.Name })
	if at < 0 {
		return "there is no rule for " + n.Name
	}
	if n.Depth >= p.Depth {
		return n.Name + " is too deep"
	}
	for _, attr := range n.Attrs {
		if !slices.Contains(p.Rules[at].Attrs, attr.Name) {
			return attr.Name + " is not listed"
		}
		if strings.Contains("cite href src", attr.Name) && !isSafeLink(p.Schemes, attr.Value) {
			return attr.Value + " is no safe link"
		}
	}
	return ""
}

// isSafeLink takes a link as browsers do: they see no controls in it.
func isSafeLink(schemes []string, link string) bool {
	link = strings.TrimSpace(strings.NewReplacer("\t", "", "\n", "", "\f", "", "\r", "").Replace(link))
	scheme, _, found := strings.Cut(link, ":")
	return !found || strings.ContainsAny(scheme, "/?#") || slices.Contains(schemes, strings.ToLower(scheme))
}

// parts are what random inputs are made of, besides tags.
var parts = []string{
	"x", " ", "\n", "\n", "\r\n", "\r", "\t", "&", "&amp;", "&lt", "&notin;", "&notit", "&#10;", "&#x3C;", "&#0", "&nbsp;", "\u00a0", "\"", "'",
	"\u00e9", "\u20ac", "\U0001f600", "\xe2\x82", "\xf0\x9f", "\xff", "\x00", "\ufdd0", "<", "</", "<!", "<!-", "<!-->", "<!-- x --", "-->", "<?x", "<!x>", ">",
	"</script>", "</textarea>", "</title", "</style >", "<script>", "<style a=b>", "<title>", "<plaintext>", "<svg>", "</svg>", "<foo>",
	"<textarea>", "<textarea>", "<pre>", "<pre>\n", "<b x='", "/>",
}

// values are what the values in random inputs are made of.
var values = []string{
	"x", "", "\"", "<", ">", "&", "&amp;", "&quot", "\u00a0", " ", "\n", "javascript:", "java&Tab;script:", "http:", "HTTPS:", "no:", "/", "#",
	"\x01", "&#1;", "\u20ac", "wwwwwwwwwwwwwwww",
}

func pick(random *rand.Rand, list []string) string {
	return list[random.Intn(len(list))]
}

// randomTag makes a tag, whose attributes are quoted in all ways.
func randomTag(random *rand.Rand, names []string) string {
	name := pick(random, names)
	if random.Intn(10) == 0 {
		name = strings.ToUpper(name)
	}
	if random.Intn(3) == 0 {
		return "</" + name + ">"
	}
	tag := "<" + name
	for range max(random.Intn(6)-3, 0) {
		value := pick(random, values) + pick(random, values)
		attr := pick(random, append(strings.Fields(allAttributes), "href", "onclick", "TITLE"))
		tag += " " + attr + pick(random, []string{`="` + strings.ReplaceAll(value, `"`, "&quot;") + `"`, "='" + value + "'", "=" + value, ""})
	}
	return tag + ">"
}

func randomInput(random *rand.Rand, names []string) string {
	var input strings.Builder
	for range random.Intn(30) {
		switch random.Intn(4) {
		case 0:
			input.WriteString(pick(random, parts))
		case 1:
			input.WriteString("x")
		default:
			input.WriteString(randomTag(random, names))
		}
	}
	return input.String()
}

// nameSets are the names that random inputs are made of.
var nameSets = [][]string{
	strings.Fields(allNames + " svg foo template"),
	strings.Fields("table tbody thead tr td th b li ul a p"),
	strings.Fields("ul ol li p b a div br h1 h2"),
	strings.Fields("pre textarea b p table td"),
	strings.Fields("a b p h1 h2 hr img q blockquote"),
}

// randomPolicy makes a valid policy.
func randomPolicy(random *rand.Rand) api.Policy {
	p := api.Policy{Depth: 1 + random.Intn(10), Window: 32 + random.Intn(40)}
	if random.Intn(8) == 0 {
		p.Depth, p.Window = 1+random.Intn(256), 32+random.Intn(4065)
	}
	has := map[string]bool{}
	for _, name := range strings.Fields(allNames) {
		if random.Intn(4) > 0 {
			has[name] = true
		}
	}
	if has["ul"] || has["ol"] {
		has["li"] = true
	}
	if has["table"] {
		has["tbody"], has["tr"], has["td"] = true, true, true
	}
	for _, name := range strings.Fields(allNames) {
		if !has[name] {
			if random.Intn(4) == 0 && name != "br" && name != "hr" && name != "img" {
				p.Drop = append(p.Drop, name)
			}
			continue
		}
		rule := api.Rule{Name: name}
		for _, attr := range strings.Fields(allAttributes) {
			if random.Intn(3) > 0 {
				rule.Attrs = append(rule.Attrs, attr)
			}
		}
		p.Rules = append(p.Rules, rule)
	}
	for _, scheme := range []string{"http", "https", "no"} {
		if random.Intn(2) == 0 {
			p.Schemes = append(p.Schemes, scheme)
		}
	}
	if random.Intn(2) == 0 {
		p.Drop = append(p.Drop, "svg", "script")
	}
	random.Shuffle(len(p.Rules), func(i, j int) { p.Rules[i], p.Rules[j] = p.Rules[j], p.Rules[i] })
	return p
}

func TestOutputsOfRandomInputs(t *testing.T) {
	random := rand.New(rand.NewSource(41))
	for i := range 20000 {
		p := randomPolicy(random)
		input := randomInput(random, nameSets[i%len(nameSets)])
		want := fullOutput(p, input, false)
		checkClean(t, p, input, want)
		checkOutput(t, p, input, false, want)
	}
}

// Start tags that are short as they are read, but grow in writing.
func TestOutputsUnderSmallWindows(t *testing.T) {
	random := rand.New(rand.NewSource(42))
	for range 4000 {
		p := everything(1+random.Intn(5), 32+random.Intn(30))
		var input strings.Builder
		for range random.Intn(6) {
			input.WriteString("<" + pick(random, []string{"b", "pre", "textarea", "ul", "td", "a"}))
			for _, name := range []string{"title", "href", "id"}[random.Intn(3):] {
				value := strings.Repeat(pick(random, []string{"<", "&", "\"", "x", "\u00a0", ">"}), random.Intn(14))
				input.WriteString(" " + name + "='" + value + "'")
			}
			input.WriteString(">\nx")
		}
		want := fullOutput(p, input.String(), false)
		checkClean(t, p, input.String(), want)
		checkOutput(t, p, input.String(), false, want)
	}
}

// Each short row of things, at each depth that matters.
func TestOutputsOfShortRows(t *testing.T) {
	all := strings.Split("<a href=u>|</a>|<b>|</b>|<br>|<textarea>|</textarea>|<pre>|<p>|</p>|<h1>|<hr>|<div>|</div>|<ul>|<li>|</li>|<table>|<tbody>|<tr>|<td>|</td>|</table>|<svg>|</svg>|x| |\n|&amp|<!--|-->|<", "|")
	var each func(input string, left int)
	each = func(input string, left int) {
		for _, depth := range []int{1, 2, 5, 9} {
			p := everything(depth, 32)
			want := fullOutput(p, input, false)
			checkClean(t, p, input, want)
			checkOutput(t, p, input, false, want)
		}
		if left == 0 {
			return
		}
		for _, thing := range all {
			each(input+thing, left-1)
		}
	}
	each("", 2)
	each("<table><td>", 1)
	each("<ul><li><a><div>", 1)
}

// What is as deep as it may be is not too deep to be read.
func TestDeepOutputs(t *testing.T) {
	for _, row := range []string{"<div>", "<b>", "<table><td>", "<ul>", "<blockquote><b>", "<ul><li><div>", "<table>x", "<ul>x", "<a><table><td>"} {
		for _, depth := range []int{1, 255, 256} {
			p := everything(depth, 32)
			input := strings.Repeat(row, 300) + "x"
			checkOutput(t, p, input, false, sanitize.Clean(p, input).Out)
		}
	}
}

// A long input takes no longer than its length asks, in one read and in many.
func TestLongInputs(t *testing.T) {
	for _, piece := range []string{"x", "&amp;", "<br>", "<b>x</b>", "<p>", "<ul>x", "<svg>x</svg>", "<a href='x'>y", "<script>x</script>", "<!-- x -->", "\xff", "\r\n"} {
		p := everything(8, 32)
		input := strings.Repeat(piece, 50000)
		want := fullOutput(p, input, false)
		checkClean(t, p, input, want)
		if !sameTree(want, markup.Fold(meant(p, input, false))) {
			t.Errorf("many times %q is not read as it was meant", piece)
		}
		if got := sanitize.Run(p, slices.Repeat([]api.Read{{Data: piece}}, 50000), noLimit); got != (api.Outcome{Out: want}) {
			t.Errorf("many reads of %q give something else than one", piece)
		}
	}
}
