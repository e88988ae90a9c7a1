package lexer_test

import (
	"strings"
	"testing"

	"scrub/api"
	"scrub/eventtest"
	"scrub/lexer"
)

// longTags holds texts with one tag that PAD makes as long as one likes, and
// what they give if the tag is kept and if it is too long.
var longTags = []struct {
	front, tag, behind string
	pad                string
	kept, lost         string
}{
	{"a", "<bPAD>", "c", "y", "[a]<bPAD>[c]", "[ac]"},
	{"a", "<bPAD>", "c", " ", "[a]<b>[c]", "[ac]"},
	{"a", "<bPAD>", "c", "/", "[a]<b>[c]", "[ac]"},
	{"a", "<b PAD>", "c", "x", "[a]<b PAD=>[c]", "[ac]"},
	{"a", "<b xPAD>", "c", "\n", "[a]<b x=>[c]", "[ac]"},
	{"a", "<b x=PAD>", "c", "\t", "[a]<b x=>[c]", "[ac]"},
	{"a", "<b x=PAD>", "c", "=", "[a]<b x=PAD>[c]", "[ac]"},
	{"a", "<b x=\"PAD\">", "c", ">", "[a]<b x=PAD>[c]", "[ac]"},
	{"a", "<b x='PAD'>", "c", "<", "[a]<b x=PAD>[c]", "[ac]"},
	{"a", "</bPAD>", "c", "y", "[a]</bPAD>[c]", "[ac]"},
	{"a", "</b x='PAD'>", "c", ">", "[a]</b>[c]", "[ac]"},
	{"a", "<prePAD>", "\nc", " ", "[a]<pre>[c]", "[ac]"},
	{"a", "<pre x='PAD'>", "\n\nc", ">", "[a]<pre x=PAD>[\nc]", "[a\nc]"},
	{"<pre>", "<bPAD>", "\nc", " ", "<pre><b>[\nc]", "<pre>[\nc]"},
	{"<pre>", "</preePAD>", "\nc", "e", "<pre></preePAD>[\nc]", "<pre>[\nc]"},
	{"a", "<textareaPAD>", "\n<b></textarea>c", " ", "[a]<textarea>[<b>]</textarea>[c]", "[a<b>]</textarea>[c]"},
	{"a", "<scriptPAD>", "<b></script>c", " ", "[a]<script></script>[c]", "[a]</script>[c]"},
	{"a", "<title PAD>", "<b></title>c", "'", "[a]<title PAD=></title>[c]", "[a]</title>[c]"},
	{"a", "<plaintextPAD>", "<b>", "/", "[a]<plaintext>", "[a]"},
	{"<textarea>a", "</textareaPAD>", "<b>", " ", "<textarea>[a]</textarea><b>", "<textarea>[a]<b>"},
	{"<textarea>a", "</TEXTAREA x=\"PAD\">", "\n", "<", "<textarea>[a]</textarea>[\n]", "<textarea>[a\n]"},
	{"<script>a", "</scriptPAD>", "<b>", " ", "<script></script><b>", "<script><b>"},
	{"<NoScript>a", "</noSCRIPT/PAD>", "b", "z", "<noscript></noscript>[b]", "<noscript>[b]"},
}

func TestTagsOfTheWindowsLength(t *testing.T) {
	for _, window := range []int{32, 33, 77, 4095, 4096} {
		for _, c := range longTags {
			for length := window - 1; length <= window+2; length++ {
				pad := strings.Repeat(c.pad, length-len(c.tag)+len("PAD"))
				text := c.front + strings.ReplaceAll(c.tag, "PAD", pad) + c.behind
				want := c.lost
				if length <= window {
					want = strings.ReplaceAll(c.kept, "PAD", pad)
				}
				if got := eventtest.Show(lexer.Lex(window, text)); got != want {
					t.Fatalf("Lex(%d, %q) = %s, want %s", window, text, got, want)
				}
				checkCuts(t, window, text, want)
			}
		}
	}
}

// checkCuts feeds a text cut once, everywhere, and in even pieces.
func checkCuts(t *testing.T, window int, text, want string) {
	t.Helper()
	step := 1
	if len(text) > 200 {
		step = 101
	}
	for cut := 0; cut <= len(text); cut++ {
		// Of a long text the front, the end and the places around the window are cut everywhere.
		if cut%step != 0 && cut > 20 && cut < window-20 {
			continue
		}
		if got := eventtest.Show(feedAll(t, window, api.Lexer{}, false, text[:cut], "", text[cut:])); got != want {
			t.Fatalf("%q cut at %d with window %d gives %s, want %s", text, cut, window, got, want)
		}
	}
	for _, size := range []int{1, 2, 3, 5, 7, 31, 32, 33} {
		if len(text) > 200 && size < 31 {
			continue
		}
		if got := eventtest.Show(feedAll(t, window, api.Lexer{}, false, cutInto(text, size)...)); got != want {
			t.Fatalf("%q in pieces of %d with window %d gives %s, want %s", text, size, window, got, want)
		}
	}
}

// An unfinished tag is held as long as it has at most window bytes.
func TestHeldTagsBecomeScans(t *testing.T) {
	for _, window := range []int{32, 40, 4096} {
		for _, c := range []struct {
			mode       int
			front, pad string
			next       api.Lexer
		}{
			{0, "<b", "y", api.Lexer{Scan: api.ScanName}},
			{0, "<b", " ", api.Lexer{Scan: api.ScanGap}},
			{0, "<b ", "y", api.Lexer{Scan: api.ScanAttr}},
			{0, "<pre x", " ", api.Lexer{Scan: api.ScanAfter, Eat: true}},
			{0, "<script x=", " ", api.Lexer{Mode: 2, Scan: api.ScanEq}},
			{0, "<textarea x=\"", ">", api.Lexer{Mode: 1, Scan: api.ScanDouble, Eat: true}},
			{0, "<Plaintext x='", ">", api.Lexer{Mode: 10, Scan: api.ScanSingle}},
			{0, "</script x=", "/", api.Lexer{Scan: api.ScanBare}},
			{1, "</textarea", "/", api.Lexer{Scan: api.ScanGap}},
			{7, "</noframes ", "<", api.Lexer{Scan: api.ScanAttr}},
		} {
			whole := c.front + strings.Repeat(c.pad, window-len(c.front))
			st := api.Lexer{Mode: c.mode}
			next, events := lexer.Feed(window, st, whole)
			st.Held = whole
			if next != st || len(events) != 0 {
				t.Errorf("Feed of %q with window %d gives %#v, %s", whole, window, next, eventtest.Show(events))
			}
			next, events = lexer.Feed(window, next, c.pad)
			if next != c.next || len(events) != 0 {
				t.Errorf("Feed of one byte behind %q with window %d gives %#v, %s", whole, window, next, eventtest.Show(events))
			}
		}
	}
}

// Of a text only an unfinished reference waits.
func TestTextIsPutOutAsItComes(t *testing.T) {
	for _, mode := range []int{api.ModeData, api.ModeTextarea} {
		st := api.Lexer{Mode: mode}
		for i := range 256 {
			if c := string([]byte{byte(i)}); c != "<" && c != "&" {
				next, events := lexer.Feed(32, st, c)
				if next != st || eventtest.Show(events) != "["+c+"]" {
					t.Errorf("Feed of %q gives %#v, %s", c, next, eventtest.Show(events))
				}
			}
		}
		long := strings.Repeat("no tag; ", 10000)
		next, events := lexer.Feed(32, st, long+"&am")
		if next.Held != "&am" || len(events) != 1 || events[0].Text != long {
			t.Errorf("a long text in mode %d leaves %#v", mode, next)
		}
	}
}
