package lexer_test

import (
	"math"
	"math/rand"
	"slices"
	"strings"
	"testing"

	"scrub/api"
	"scrub/eventtest"
	"scrub/lexer"
)

// join makes one event of text events that meet.
func join(events []api.Event) []api.Event {
	var all []api.Event
	for _, e := range events {
		last := len(all) - 1
		if e.Kind == api.KindText && last >= 0 && all[last].Kind == api.KindText {
			all[last].Text += e.Text
			continue
		}
		all = append(all, e)
	}
	return all
}

// feedAll feeds the pieces from a state on, and finishes. It fails if a piece
// leaves more held than it may.
func feedAll(t *testing.T, window int, st api.Lexer, broken bool, pieces ...string) []api.Event {
	t.Helper()
	var all []api.Event
	for _, piece := range pieces {
		before := st
		var events []api.Event
		st, events = lexer.Feed(window, st, piece)
		if len(st.Held) > window {
			t.Fatalf("Feed(%d, %#v, %q) holds %d bytes", window, before, piece, len(st.Held))
		}
		all = append(all, events...)
	}
	return join(append(all, lexer.Finish(window, st, broken)...))
}

func cutInto(s string, size int) []string {
	var pieces []string
	for at := 0; at < len(s); at += size {
		pieces = append(pieces, s[at:min(len(s), at+size)])
	}
	return pieces
}

// eachSequence goes through all sequences of at most count parts.
func eachSequence(parts []string, count int, do func(string)) {
	do("")
	if count == 0 {
		return
	}
	for _, part := range parts {
		eachSequence(parts, count-1, func(rest string) { do(part + rest) })
	}
}

// checkCall holds one Feed and both Finishes against the model.
func checkCall(t *testing.T, window int, st api.Lexer, text string) {
	t.Helper()
	wantNext, wantEvents := modelFeed(window, st, text)
	next, events := lexer.Feed(window, st, text)
	if next != wantNext || !eventtest.Same(events, wantEvents) {
		t.Fatalf("Feed(%d, %#v, %q) = %#v, %s, want %#v, %s", window, st, text, next, eventtest.Show(events), wantNext, eventtest.Show(wantEvents))
	}
	st.Held += text
	for _, broken := range []bool{false, true} {
		want := modelFinish(window, st, broken)
		if got := lexer.Finish(window, st, broken); !eventtest.Same(got, want) {
			t.Fatalf("Finish(%d, %#v, %v) = %s, want %s", window, st, broken, eventtest.Show(got), eventtest.Show(want))
		}
	}
}

func TestLexCases(t *testing.T) {
	for _, c := range []struct{ in, out string }{
		{"", ""},
		{"x\x80\xff\x00y", "[x\x80\xff\x00y]"},
		// 4.1
		{"<A\tB=C\nD='E'\fF=\"G\"\rH>", "<a b=C d=E f=G h=>"},
		{"<a\"b'c=d>", "<a\"b'c=d>"},
		{"<a/b//c/>", "<a b= c=>"},
		{"<a =>", "<a ==>"},
		{"<a ==>", "<a ==>"},
		{"<a ===>", "<a ===>"},
		{"<a \"b\"=c 'd>", "<a \"b\"=c 'd=>"},
		{"<a b =c =d>", "<a b=c =d=>"},
		{"<a b \"c>", "<a b= \"c=>"},
		{"<a b / =c>", "<a b= =c=>"},
		{"<a b=/>", "<a b=/>"},
		{"<a b=/ c>", "<a b=/ c=>"},
		{"<a b=c\"d'e=f/g h>", "<a b=c\"d'e=f/g h=>"},
		{"<a b==c>", "<a b==c>"},
		{"<a b=\"\"c=''d>", "<a b= c= d=>"},
		{"<a b=\"'\" c='\"' d=\" \n/>\">", "<a b=' c=\" d= \n/>>"},
		{"<a b=&amp;&lt c=\"&notit;&#62\" d='&notin;'>", "<a b=&< c=&notit;> d=∉>"},
		{"<a &amp;=1 B&LT=2>", "<a &amp;=1 b&lt=2>"},
		{"<a b=1 B=2 b>", "<a b=1 b=2 b=>"},
		{"<aÄÉ ÖK=Ü>", "<aÄÉ Ök=Ü>"},
		{"</A b=\">\">", "</a>"},
		{"</br/>", "</br>"},
		{"<a<b>c", "<a<b>[c]"},
		{"<a b<c>d", "<a b<c=>[d]"},
		{"<1><-><=><>< ><&amp>", "[<1><-><=><>< ><&>]"},
		// 4.2, data
		{"<!-->a<!--->b<!---->c<!----->d<!-- --!> -->e", "[abcde]"},
		{"<!--a-->b-->c", "[b-->c]"},
		{"<!-- <b> --", ""},
		{"<!>a<!->b<!-x>c<!-x--y>d<?>e<??>f</>g</1>h</ >i", "[abcdefghi]"},
		{"<!doctype \">\">a", "[\">a]"},
		{"<!-", ""}, {"<!", ""}, {"<?", ""}, {"<", "[<]"}, {"</", "[</]"}, {"</a", ""}, {"a<a b", "[a]"},
		{"<<b>", "[<]<b>"}, {"<</b>", "[<]</b>"}, {"<&lt;b>", "[<<b>]"},
		{"&amp", "[&]"}, {"&", "[&]"}, {"&#", "[&#]"}, {"&#x", "[&#x]"}, {"&#65", "[A]"}, {"&;", "[&;]"}, {"&#;", "[&#;]"},
		{"&&amp;", "[&&]"}, {"&#&amp;", "[&#&]"}, {"&##65;", "[&##65;]"}, {"&a#65;", "[&a#65;]"},
		{"&noti<b>n;", "[¬i]<b>[n;]"},
		{"a<b>&<i>", "[a]<b>[&]<i>"},
		// 4.2, the other modes
		{"<TEXTAREA><!--&lt;<b></textarea</textareaa></textarea >x", "<textarea>[<!--<<b></textarea</textareaa>]</textarea>[x]"},
		{"<textarea></TEXTAREA/>x", "<textarea></textarea>[x]"},
		{"<textarea>&am</textarea>p;", "<textarea>[&am]</textarea>[p;]"},
		{"<textarea></textarea", "<textarea>[</textarea]"},
		{"<textarea><", "<textarea>[<]"},
		{"<textarea></", "<textarea>[</]"},
		{"<textarea></textarea x", "<textarea>"},
		{"<textarea>&not", "<textarea>[¬]"},
		{"<script><!--<b></script</style></scripts>&amp;</script\n>x", "<script></script>[x]"},
		{"<script></", "<script>"}, {"<script></script", "<script>"}, {"<script>&amp", "<script>"},
		{"<style></script></STYLE>x", "<style></style>[x]"},
		{"<xmp></xmp\tx>y", "<xmp></xmp>[y]"},
		{"<iframe><iframe></iframe>x</iframe>", "<iframe></iframe>[x]</iframe>"},
		{"<noembed></noembed\f>x", "<noembed></noembed>[x]"},
		{"<noframes></noframes\r>x", "<noframes></noframes>[x]"},
		{"<noscript></noscript />x", "<noscript></noscript>[x]"},
		{"<title></title/>x", "<title></title>[x]"},
		{"<titles>x", "<titles>[x]"}, {"</title>x", "</title>[x]"},
		{"<script/>a</script>b", "<script></script>[b]"},
		{"<plaintext></plaintext><b>&amp;", "<plaintext>"},
		{"</plaintext>a", "</plaintext>[a]"},
		// the eaten newline
		{"<pre>\n\n", "<pre>[\n]"}, {"<PRE x>\n", "<pre x=>"}, {"<pre>\r\n", "<pre>[\r\n]"},
		{"<pre>&#10;\n", "<pre>[\n]"}, {"<pre>&NewLine;\n", "<pre>[\n]"}, {"<pre>&#x0A", "<pre>"}, {"<pre>&#10a", "<pre>[\na]"},
		{"<pre><b>\n", "<pre><b>[\n]"}, {"<pre></b>\n", "<pre></b>[\n]"}, {"<pre></pre>\n", "<pre></pre>[\n]"},
		{"<pre><!---->\n", "<pre>[\n]"}, {"<pre><!x>\n", "<pre>[\n]"}, {"<pre></>\n", "<pre>[\n]"}, {"<pre><?>\n", "<pre>[\n]"},
		{"<pre><\n", "<pre>[<\n]"}, {"<pre>&amp;\n", "<pre>[&\n]"}, {"<pre><pre>\n", "<pre><pre>"},
		{"<textarea>\n</textarea>\n", "<textarea></textarea>[\n]"}, {"<textarea>&#10;\n", "<textarea>[\n]"},
		{"</pre>\n", "</pre>[\n]"}, {"<script>\n</script>\n", "<script></script>[\n]"},
	} {
		got := lexer.Lex(64, c.in)
		if eventtest.Show(got) != c.out {
			t.Errorf("Lex(64, %q) = %s, want %s", c.in, eventtest.Show(got), c.out)
		}
		for size := 1; size <= len(c.in); size++ {
			if fed := feedAll(t, 64, api.Lexer{}, false, cutInto(c.in, size)...); !eventtest.Same(fed, got) {
				t.Errorf("%q in pieces of %d gives %s, want %s", c.in, size, eventtest.Show(fed), eventtest.Show(got))
			}
		}
	}
}

// The fields that have no meaning in an event are zero.
func TestEventsHaveNoOtherFields(t *testing.T) {
	want := []api.Event{
		{Kind: api.KindText, Text: "x"},
		{Kind: api.KindStart, Name: "a", Attrs: []api.Attr{{Name: "b", Value: "c"}}},
		{Kind: api.KindEnd, Name: "a"},
	}
	if got := lexer.Lex(32, "x<a b=c></a b=c>"); !eventtest.Same(got, want) {
		t.Errorf("%#v", got)
	}
}

func TestReferenceRunEdges(t *testing.T) {
	zeros := strings.Repeat("0", 40)
	word := strings.Repeat("q", 40)
	for _, c := range []struct{ in, text, held string }{
		{"&" + word[:30], "", "&" + word[:30]},
		{"&" + word[:31], "&" + word[:31], ""},
		{"&" + word[:30] + ";", "&" + word[:30] + ";", ""},
		{"&" + word[:31] + ";", "&" + word[:31] + ";", ""},
		{"&#" + zeros[:27] + "65", "", "&#" + zeros[:27] + "65"},
		{"&#" + zeros[:27] + "65;", "A", ""},
		{"&#" + zeros[:28] + "65", "A", ""},
		{"&#" + zeros[:28] + "65;", "A;", ""},
		{"&#" + zeros[:29] + "65;", "\ufffd5;", ""},
		{"&#x" + zeros[:26] + "41", "", "&#x" + zeros[:26] + "41"},
		{"&#x" + zeros[:27] + "41;", "A;", ""},
		{"&amp" + word[:27], "", "&amp" + word[:27]},
		{"&amp" + word[:28], "&" + word[:28], ""},
		{"&amp;", "&", ""},
		{"&amp ", "& ", ""},
		{"&#", "", "&#"},
		{"&# ", "&# ", ""},
	} {
		for _, mode := range []int{api.ModeData, api.ModeTextarea} {
			next, events := lexer.Feed(32, api.Lexer{Mode: mode}, c.in)
			text := ""
			if len(events) > 0 {
				text = events[0].Text
			}
			if text != c.text || next != (api.Lexer{Mode: mode, Held: c.held}) {
				t.Errorf("Feed of %q in mode %d: %q, %#v", c.in, mode, text, next)
			}
		}
	}
}

// The table of 4.1, as the document has it.
const listOfStates = `Name | Gap | Gap | end | Name | Name | Name | Name
Gap | Gap | Gap | end | Attr | Attr | Attr | Attr
Attr | After | Gap | end | Eq | Attr | Attr | Attr
After | After | Gap | end | Eq | Attr | Attr | Attr
Eq | Eq | Bare | end | Bare | Double | Single | Bare
Double | Double | Double | Double | Double | Gap | Double | Double
Single | Single | Single | Single | Single | Single | Gap | Single
Bare | Gap | Bare | end | Bare | Bare | Bare | Bare`

func TestEveryTagStateAndByte(t *testing.T) {
	numbers := map[string]int{"end": 0, "Name": 3, "Gap": 4, "Attr": 5, "After": 6, "Eq": 7, "Double": 8, "Single": 9, "Bare": 10}
	for _, row := range strings.Split(listOfStates, "\n") {
		cells := strings.Split(row, " | ")
		for i := range 256 {
			c := string([]byte{byte(i)})
			column := strings.Index("/>=\"'", c) + 2
			switch {
			case strings.Contains(space, c):
				column = 1
			case column == 1:
				column = 7
			}
			for mode := range 11 {
				want := api.Lexer{Mode: mode, Scan: numbers[cells[column]], Eat: i%2 == 0}
				st := api.Lexer{Mode: mode, Scan: numbers[cells[0]], Eat: i%2 == 0}
				next, events := lexer.Feed(32, st, c)
				if next != want || len(events) != 0 {
					t.Fatalf("Feed(32, %#v, %q) = %#v, %s", st, c, next, eventtest.Show(events))
				}
			}
		}
	}
}

func TestWhatIsHeld(t *testing.T) {
	for _, c := range []struct {
		st   api.Lexer
		in   string
		next api.Lexer
	}{
		{api.Lexer{}, "a<", api.Lexer{Held: "<"}},
		{api.Lexer{}, "a</", api.Lexer{Held: "</"}},
		{api.Lexer{}, "a<!", api.Lexer{Held: "<!"}},
		{api.Lexer{}, "a<!-", api.Lexer{Held: "<!-"}},
		{api.Lexer{}, "a<!--", api.Lexer{Scan: 1, Held: "--"}},
		{api.Lexer{}, "a<!---", api.Lexer{Scan: 1, Held: "--"}},
		{api.Lexer{}, "a<!--b", api.Lexer{Scan: 1}},
		{api.Lexer{}, "a<!--b-", api.Lexer{Scan: 1, Held: "-"}},
		{api.Lexer{}, "a<!--b---", api.Lexer{Scan: 1, Held: "--"}},
		{api.Lexer{}, "a<!--b--->c<", api.Lexer{Held: "<"}},
		{api.Lexer{}, "a<?", api.Lexer{Scan: 2}},
		{api.Lexer{}, "a</1", api.Lexer{Scan: 2}},
		{api.Lexer{}, "a<!-b", api.Lexer{Scan: 2}},
		{api.Lexer{}, "a<b", api.Lexer{Held: "<b"}},
		{api.Lexer{}, "a</b c='>", api.Lexer{Held: "</b c='>"}},
		{api.Lexer{Eat: true}, "<", api.Lexer{Eat: true, Held: "<"}},
		{api.Lexer{Eat: true}, "<!-", api.Lexer{Eat: true, Held: "<!-"}},
		{api.Lexer{Eat: true}, "&#10", api.Lexer{Eat: true, Held: "&#10"}},
		{api.Lexer{Eat: true}, "<b", api.Lexer{Eat: true, Held: "<b"}},
		{api.Lexer{Eat: true}, "<!--", api.Lexer{Scan: 1, Held: "--"}},
		{api.Lexer{Eat: true}, "<?", api.Lexer{Scan: 2}},
		{api.Lexer{Eat: true}, "\n", api.Lexer{}},
		{api.Lexer{Eat: true}, "a", api.Lexer{}},
		{api.Lexer{Eat: true}, "<b>", api.Lexer{}},
		{api.Lexer{Eat: true}, "</b>", api.Lexer{}},
		{api.Lexer{Eat: true, Scan: 1}, "a-->", api.Lexer{Eat: true}},
		{api.Lexer{Eat: true, Scan: 2}, "a>", api.Lexer{Eat: true}},
		{api.Lexer{Eat: true, Scan: 8}, "a\">", api.Lexer{Eat: true}},
		{api.Lexer{Mode: 1}, "a</TextArea", api.Lexer{Mode: 1, Held: "</TextArea"}},
		{api.Lexer{Mode: 1}, "a</textarea\n", api.Lexer{Mode: 1, Held: "</textarea\n"}},
		{api.Lexer{Mode: 1}, "a</textareas", api.Lexer{Mode: 1}},
		{api.Lexer{Mode: 1}, "a<<", api.Lexer{Mode: 1, Held: "<"}},
		{api.Lexer{Mode: 1}, "a<b", api.Lexer{Mode: 1}},
		{api.Lexer{Mode: 1, Eat: true}, "</t", api.Lexer{Mode: 1, Eat: true, Held: "</t"}},
		{api.Lexer{Mode: 1, Eat: true}, "</textarea>", api.Lexer{}},
		{api.Lexer{Mode: 2, Eat: true}, "a&amp;\n</scr", api.Lexer{Mode: 2, Eat: true, Held: "</scr"}},
		{api.Lexer{Mode: 2, Eat: true}, "</script>", api.Lexer{}},
		{api.Lexer{Mode: 2}, "a&amp", api.Lexer{Mode: 2}},
		{api.Lexer{Mode: 9}, "</titl</TITLE/", api.Lexer{Mode: 9, Held: "</TITLE/"}},
		{api.Lexer{Mode: 9}, "</style", api.Lexer{Mode: 9}},
		{api.Lexer{Mode: 10, Eat: true}, "\n</plaintext", api.Lexer{Mode: 10, Eat: true}},
		{api.Lexer{Mode: 2, Scan: 1, Held: "-"}, "->a</", api.Lexer{Mode: 2, Held: "</"}},
	} {
		if next, _ := lexer.Feed(32, c.st, c.in); next != c.next {
			t.Errorf("Feed(32, %#v, %q) gives %#v, want %#v", c.st, c.in, next, c.next)
		}
	}
}

func TestFinish(t *testing.T) {
	for _, c := range []struct {
		st          api.Lexer
		end, broken string
	}{
		{api.Lexer{}, "", ""},
		{api.Lexer{Held: "&"}, "[&]", ""},
		{api.Lexer{Held: "a&lt"}, "[a<]", "[a]"},
		{api.Lexer{Held: "a<"}, "[a<]", "[a]"},
		{api.Lexer{Held: "a</"}, "[a</]", "[a]"},
		{api.Lexer{Held: "a<!"}, "[a]", "[a]"},
		{api.Lexer{Held: "a<!-"}, "[a]", "[a]"},
		{api.Lexer{Held: "a<b c"}, "[a]", "[a]"},
		{api.Lexer{Held: "a</b"}, "[a]", "[a]"},
		{api.Lexer{Held: "a<!--b--"}, "[a]", "[a]"},
		{api.Lexer{Eat: true, Held: "&#10"}, "", ""},
		{api.Lexer{Eat: true, Held: "\n&#10"}, "[\n]", ""},
		{api.Lexer{Mode: 1, Held: "a</TEXTAREA"}, "[a</TEXTAREA]", "[a]"},
		{api.Lexer{Mode: 1, Held: "a</textarea/"}, "[a]", "[a]"},
		{api.Lexer{Mode: 1, Held: "a&gt"}, "[a>]", "[a]"},
		{api.Lexer{Mode: 1, Held: "</textarea>&gt"}, "</textarea>[>]", "</textarea>"},
		{api.Lexer{Mode: 3, Held: "</styl"}, "", ""},
		{api.Lexer{Mode: 10, Held: "<"}, "", ""},
		{api.Lexer{Scan: 1, Held: "a-->b&"}, "[b&]", "[b]"},
		{api.Lexer{Scan: 2, Held: "&amp"}, "", ""},
		{api.Lexer{Scan: 3, Held: "&amp"}, "", ""},
		{api.Lexer{Scan: 10, Held: ">&amp"}, "[&]", ""},
	} {
		if got := eventtest.Show(lexer.Finish(32, c.st, false)); got != c.end {
			t.Errorf("Finish(32, %#v, false) = %s, want %s", c.st, got, c.end)
		}
		if got := eventtest.Show(lexer.Finish(32, c.st, true)); got != c.broken {
			t.Errorf("Finish(32, %#v, true) = %s, want %s", c.st, got, c.broken)
		}
	}
}

func TestWindowsAndStatesThatAreNotAllowed(t *testing.T) {
	check := func(window int, st api.Lexer) {
		t.Helper()
		next, events := lexer.Feed(window, st, "a<b>c")
		if next != (api.Lexer{}) || len(events) != 0 {
			t.Errorf("Feed(%d, %#v) = %#v, %s", window, st, next, eventtest.Show(events))
		}
		for _, broken := range []bool{false, true} {
			if events := lexer.Finish(window, st, broken); len(events) != 0 {
				t.Errorf("Finish(%d, %#v, %v) = %s", window, st, broken, eventtest.Show(events))
			}
		}
	}
	for _, window := range []int{math.MinInt, -32, -1, 0, 31, 4097, math.MaxInt} {
		check(window, api.Lexer{Eat: true, Held: "x"})
		if events := lexer.Lex(window, "a<b>"); len(events) != 0 {
			t.Errorf("Lex(%d) = %s", window, eventtest.Show(events))
		}
	}
	for _, wrong := range []int{math.MinInt, -1, 11, 12, math.MaxInt} {
		for right := range 11 {
			check(32, api.Lexer{Mode: wrong, Scan: right, Eat: true, Held: "x"})
			check(4096, api.Lexer{Mode: right, Scan: wrong, Held: "-->"})
		}
	}
	for window := 32; window <= 4096; window++ {
		if got := eventtest.Show(lexer.Lex(window, "a<b>c")); got != "[a]<b>[c]" {
			t.Errorf("Lex(%d) = %s", window, got)
		}
	}
}

func TestEveryStateAgainstModel(t *testing.T) {
	parts := []string{
		"<", ">", "/", "-->", "!", "&", "#1", "0;", "a", "=", "\"", "' ", "\n", "</title", "</TEXTAREA ", "<pre>",
		"<b " + strings.Repeat("c", 30), "\x80",
	}
	for mode := range 11 {
		for scan := range 11 {
			for _, eat := range []bool{false, true} {
				eachSequence(parts, 2, func(text string) {
					for _, held := range []string{"", "-", "&#", "<!-", "</"} {
						checkCall(t, 32, api.Lexer{Mode: mode, Scan: scan, Eat: eat, Held: held}, text)
					}
				})
			}
		}
	}
}

func TestShortTextsAgainstModel(t *testing.T) {
	for _, set := range []struct {
		front string
		parts []string
		count int
	}{
		{"", strings.Split("< / > ! - & # ; a = \" ' ? 1 \n", " "), 4},
		{"<", strings.Split("/|!|-|>|a|<| ", "|"), 5},
		{"<b ", strings.Split("/|>|a|=|\"|'| |&lt|1", "|"), 5},
		{"<!-", strings.Split("-|>|a|<b>", "|"), 7},
		{"<pre>", strings.Split("\n|&#10;|<!x>|<pre|>|<b>|a|<!--|-->|&#10", "|"), 4},
		{"<textarea>", strings.Split("<|/|textarea|>| |&lt|;|\n|</TEXTAREA", "|"), 4},
		{"<xmp>", strings.Split("<|/|xmp|>| |&lt|x|</XMP|mp", "|"), 4},
	} {
		for _, eat := range []bool{false, true} {
			eachSequence(set.parts, set.count, func(text string) {
				checkCall(t, 33, api.Lexer{Eat: eat}, set.front+text)
			})
		}
	}
}

func TestEveryWayToCutShortTexts(t *testing.T) {
	parts := []string{"<", "<!--", "-", ">", "/b", " c='", "&lt", ";", "\n", "<pre>", "<xmp>", "</xmp", "textarea"}
	eachSequence(parts, 3, func(text string) {
		if len(text) > 10 {
			return
		}
		want := lexer.Lex(32, text)
		var st api.Lexer
		var each func(st api.Lexer, rest string, ahead []api.Event)
		each = func(st api.Lexer, rest string, ahead []api.Event) {
			if rest == "" {
				all := join(append(slices.Clone(ahead), lexer.Finish(32, st, false)...))
				if !eventtest.Same(all, want) {
					t.Fatalf("a way to cut %q gives %s, want %s", text, eventtest.Show(all), eventtest.Show(want))
				}
			}
			for n := 1; n <= len(rest); n++ {
				next, events := lexer.Feed(32, st, rest[:n])
				each(next, rest[n:], append(slices.Clone(ahead), events...))
			}
		}
		each(st, text, nil)
	})
}

func TestLongTextsInPieces(t *testing.T) {
	parts := []string{
		"<", ">", "/", "!", "-", "--", "-->", "<!--", "&", "#", ";", "=", "\"", "'", " ", "\n", "a", "<b", "</b", "<pre>", "<textarea>",
		"</textarea", "<script>", "</script", "<STYLE ", "</style>", "<title>", "</title>", "<?", "&amp", "&notin;", "&#10;", "&#x", "0000000",
		"yyyyyyyyy", "\x80", "é", " c=d ", " e=\"", " f='",
	}
	random := rand.New(rand.NewSource(2))
	for range 20000 {
		var b strings.Builder
		for range 1 + random.Intn(40) {
			b.WriteString(parts[random.Intn(len(parts))])
		}
		text := b.String()
		window := 32 + random.Intn(20)
		want := lexer.Lex(window, text)
		if model := modelFinish(window, api.Lexer{Held: text}, false); !eventtest.Same(want, model) {
			t.Fatalf("Lex(%d, %q) = %s, want %s", window, text, eventtest.Show(want), eventtest.Show(model))
		}
		var pieces []string
		for from := 0; from < len(text); {
			to := min(len(text), from+random.Intn(1+random.Intn(30)))
			pieces = append(pieces, text[from:to])
			from = to
		}
		if got := feedAll(t, window, api.Lexer{}, false, pieces...); !eventtest.Same(got, want) {
			t.Fatalf("%q in pieces %q with window %d gives %s, want %s", text, pieces, window, eventtest.Show(got), eventtest.Show(want))
		}
		whole := join(modelFinish(window, api.Lexer{Held: text}, true))
		if got := feedAll(t, window, api.Lexer{}, true, pieces...); !eventtest.Same(got, whole) {
			t.Fatalf("%q broken off, in pieces %q, gives %s, want %s", text, pieces, eventtest.Show(got), eventtest.Show(whole))
		}
	}
}
