package markup_test

import (
	"fmt"
	"strings"
	"testing"

	"scrub/api"
)

// The newline behind the start tag of pre and textarea, on the reading side.
func TestNewlineBehindStartTag(t *testing.T) {
	for _, name := range []string{"pre", "textarea"} {
		for text, tree := range map[string]string{
			"<N></N>":                  "<N>",
			"<N>\n</N>":                "<N>",
			"<N>\n\n</N>":              "<N>.[\n]",
			"<N>\n\n\n</N>":            "<N>.[\n\n]",
			"<N>\nx</N>":               "<N>.[x]",
			"<N>\n\nx</N>":             "<N>.[\nx]",
			"<N>x\n</N>":               "<N>.[x\n]",
			"<N> \n</N>":               "<N>.[ \n]",
			"<N>\n&amp;\n</N>":         "<N>.[&\n]",
			"<N>&amp;\n</N>":           "<N>.[&\n]",
			"<N>\n\n&lt;</N>":          "<N>.[\n<]",
			"<N id=\"x\">\nx</N>":      "<N id=x>.[x]",
			"<N></N>\n":                "<N>[\n]",
			"<N>\n</N>\n":              "<N>[\n]",
			"<N></N><N>\n</N>\nx":      "<N><N>[\nx]",
			"\n<N>\n</N>":              "[\n]<N>",
			"<b><N>\n</N>\n</b>":       "<b>.<N>.[\n]",
			"<div>\n<N>\n\n</N></div>": "<div>.[\n].<N>..[\n]",
		} {
			checkTree(t, strings.ReplaceAll(text, "N", name), strings.ReplaceAll(tree, "N", name))
		}
	}
	for text, tree := range map[string]string{
		"<pre><b>\n</b></pre>":                   "<pre>.<b>..[\n]",
		"<pre><b></b>\n</pre>":                   "<pre>.<b>.[\n]",
		"<pre><br>\n</pre>":                      "<pre>.<br>.[\n]",
		"<pre>\n<br>\n</pre>":                    "<pre>.<br>.[\n]",
		"<pre>\n<b>\nx</b></pre>":                "<pre>.<b>..[\nx]",
		"<pre><textarea>\n\n</textarea>\n</pre>": "<pre>.<textarea>..[\n].[\n]",
		"<pre><pre>\n</pre>\n</pre>":             "<pre>.<pre>.[\n]",
		"<p>\n</p><b>\n</b>\n":                   "<p>.[\n]<b>.[\n][\n]",
		"<div>\n</div><ul>\n</ul>":               "<div>.[\n]<ul>.[\n]",
	} {
		checkTree(t, text, tree)
	}
	checkVerdict(t, "<pre>&NewLine;</pre>", api.RejectToken)
	checkVerdict(t, "<pre>&#10;</pre>", api.RejectToken)
	checkVerdict(t, "<pre>\n&</pre>", api.RejectToken)
	checkVerdict(t, "<textarea>\n<b>", api.RejectToken)
	checkVerdict(t, "<pre>\r\n</pre>", api.RejectToken)
}

// Text in each kind of table element: white space alone may stand in all but cells.
func TestTextsInTables(t *testing.T) {
	for _, around := range []struct{ form, ahead, dots string }{
		{"<table>%s</table>", "<table>", "."},
		{"<table><tbody>%s</tbody></table>", "<table>.<tbody>", ".."},
		{"<table><tfoot>%s</tfoot></table>", "<table>.<tfoot>", ".."},
		{"<table><thead>%s</thead></table>", "<table>.<thead>", ".."},
		{"<table><thead><tr>%s</tr></thead></table>", "<table>.<thead>..<tr>", "..."},
		{"<table><tbody><tr>%s</tr></tbody></table>", "<table>.<tbody>..<tr>", "..."},
		{"<div><table>%s</table></div>", "<div>.<table>", ".."},
		{"<table><tbody><tr><td><table>%s</table></td></tr></tbody></table>", "<table>.<tbody>..<tr>...<td>....<table>", "....."},
	} {
		for _, space := range []string{" ", "\n", "\t", "\f", " \t\n\f ", "\n\n"} {
			checkTree(t, fmt.Sprintf(around.form, space), around.ahead+around.dots+"["+space+"]")
		}
		checkTree(t, fmt.Sprintf(around.form, ""), around.ahead)
		for _, text := range []string{"x", " x", "x ", "&nbsp;", " &nbsp;\n", "\u00a0", "\u2003", "&lt;", "\ufffd", ">", "\n\n.", "\u3000 ", "\ufeff"} {
			checkVerdict(t, fmt.Sprintf(around.form, text), api.RejectFoster)
			checkVerdict(t, fmt.Sprintf(around.form, "")+fmt.Sprintf(around.form, text), api.RejectFoster)
		}
		checkVerdict(t, fmt.Sprintf(around.form, "\r"), api.RejectToken)
		checkVerdict(t, fmt.Sprintf(around.form, "&"), api.RejectToken)
	}
	for _, text := range []string{"x", " x ", "\u00a0", " ", "\n"} {
		for _, cell := range []string{"td", "th"} {
			checkTree(t, "<table><tbody><tr><"+cell+">"+text+"</"+cell+"></tr></tbody></table>", "<table>.<tbody>..<tr>...<"+cell+">....["+text+"]")
			checkTree(t, "<table><tbody><tr><"+cell+"><b>"+text+"</b></"+cell+"></tr></tbody></table>", "<table>.<tbody>..<tr>...<"+cell+">....<b>.....["+text+"]")
		}
	}
	checkVerdict(t, "<table><tbody><tr><td>x</td>x</tr></tbody></table>", api.RejectFoster)
	checkTree(t, "<table> <tbody> <tr> <td> </td> </tr> </tbody> </table> x",
		"<table>.[ ].<tbody>..[ ]..<tr>...[ ]...<td>....[ ]...[ ]..[ ].[ ][ x]")
}

// A text is taken where 8.2 has no rule against it, the nesting table or not.
func TestTextsElsewhere(t *testing.T) {
	checkTree(t, "<ul>x<li>y</li></ul><ol> </ol>", "<ul>.[x].<li>..[y]<ol>.[ ]")
	checkTree(t, "a<b>b</b>c<br>d", "[a]<b>.[b][c]<br>[d]")
	checkTree(t, "<textarea>x&lt;/textarea&gt;\"</textarea>", "<textarea>.[x</textarea>\"]")
	checkTree(t, "<textarea>&lt;b&gt;\n</textarea>x", "<textarea>.[<b>\n][x]")
}
