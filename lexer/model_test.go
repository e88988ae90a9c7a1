package lexer_test

import (
	"regexp"
	"strings"

	"scrub/api"
	"scrub/chars"
)

// The model lexes by the words of chapter 4, in another way than the program:
// a tag's states are functions, the beginnings of things are patterns.

const space = "\t\n\f\r "

// modelTag takes the bytes of a tag off the front of rest. Where they run out,
// scan is the state that the tag has come to.
type modelTag struct {
	rest  string
	name  string
	attrs []api.Attr
	scan  int
}

// until takes the bytes up to a stop and the stop, or all if there is none.
func (g *modelTag) until(stops string, scan int) (string, byte) {
	at := strings.IndexAny(g.rest, stops)
	if at < 0 {
		all := g.rest
		g.rest, g.scan = "", scan
		return all, 0
	}
	ahead, stop := g.rest[:at], g.rest[at]
	g.rest = g.rest[at+1:]
	return ahead, stop
}

// begin goes on from a state, which stands in the middle of an attribute.
func (g *modelTag) begin(state int) {
	g.attrs = []api.Attr{{}}
	switch state {
	case api.ScanName:
		g.inName()
	case api.ScanGap:
		g.inGap()
	case api.ScanAttr:
		g.inAttr("")
	case api.ScanAfter:
		g.inAfter()
	case api.ScanEq:
		g.inEq()
	case api.ScanDouble:
		g.inQuotes("\"", state)
	case api.ScanSingle:
		g.inQuotes("'", state)
	case api.ScanBare:
		g.inBare()
	}
	g.attrs = g.attrs[1:]
}

// skip takes the stops off the front and answers the byte behind them.
func (g *modelTag) skip(stops string, scan int) byte {
	g.rest = strings.TrimLeft(g.rest, stops)
	if g.rest == "" {
		g.scan = scan
		return 0
	}
	c := g.rest[0]
	g.rest = g.rest[1:]
	return c
}

func (g *modelTag) newAttr(first byte) {
	g.attrs = append(g.attrs, api.Attr{})
	g.inAttr(string([]byte{first}))
}

func (g *modelTag) value(v string) {
	g.attrs[len(g.attrs)-1].Value = chars.Unref(v, true)
}

func (g *modelTag) inName() {
	name, stop := g.until(space+"/>", api.ScanName)
	g.name = lower(name)
	if stop != 0 && stop != '>' {
		g.inGap()
	}
}

func (g *modelTag) inGap() {
	switch c := g.skip(space+"/", api.ScanGap); {
	case g.scan != 0 || c == '>':
	default:
		g.newAttr(c)
	}
}

func (g *modelTag) inAttr(first string) {
	more, stop := g.until(space+"/>=", api.ScanAttr)
	g.attrs[len(g.attrs)-1].Name = lower(first + more)
	switch {
	case g.scan != 0 || stop == '>':
	case stop == '/':
		g.inGap()
	case stop == '=':
		g.inEq()
	default:
		g.inAfter()
	}
}

func (g *modelTag) inAfter() {
	switch c := g.skip(space, api.ScanAfter); {
	case g.scan != 0 || c == '>':
	case c == '/':
		g.inGap()
	case c == '=':
		g.inEq()
	default:
		g.newAttr(c)
	}
}

func (g *modelTag) inEq() {
	switch c := g.skip(space, api.ScanEq); {
	case g.scan != 0 || c == '>':
	case c == '"':
		g.inQuotes("\"", api.ScanDouble)
	case c == '\'':
		g.inQuotes("'", api.ScanSingle)
	default:
		g.rest = string([]byte{c}) + g.rest
		g.inBare()
	}
}

func (g *modelTag) inQuotes(quote string, scan int) {
	if v, _ := g.until(quote, scan); g.scan == 0 {
		g.value(v)
		g.inGap()
	}
}

func (g *modelTag) inBare() {
	v, stop := g.until(space+">", api.ScanBare)
	if g.scan == 0 {
		g.value(v)
		if stop != '>' {
			g.inGap()
		}
	}
}

func lower(s string) string {
	var b []byte
	for i := range len(s) {
		if at := strings.IndexByte("ABCDEFGHIJKLMNOPQRSTUVWXYZ", s[i]); at >= 0 {
			b = append(b, "abcdefghijklmnopqrstuvwxyz"[at])
			continue
		}
		b = append(b, s[i])
	}
	return string(b)
}

var modelNames = []string{"", "textarea", "script", "style", "xmp", "iframe", "noembed", "noframes", "noscript", "title", "plaintext"}

// anyCase is the pattern of a word in any letter case. The flag for that would
// also let letters beyond ASCII through.
func anyCase(word string) string {
	var b strings.Builder
	for _, c := range word {
		b.WriteString("[" + string(c) + strings.ToUpper(string(c)) + "]")
	}
	return b.String()
}

var modelEnds = func() (all []*regexp.Regexp) {
	for _, name := range modelNames {
		all = append(all, regexp.MustCompile("^</"+anyCase(name)+"[\t\n\f\r />]"))
	}
	return all
}()

// isBeginning tells whether s is </ and the mode's name or a beginning of that.
func isBeginning(s string, mode int) bool {
	return strings.HasPrefix("</"+modelNames[mode], lower(s))
}

var (
	modelTagAt   = regexp.MustCompile(`^</?[A-Za-z]`)
	modelBogusAt = regexp.MustCompile(`^<[!?/]`)
	modelRunAt   = regexp.MustCompile(`^&#?[0-9A-Za-z]*`)
)

type model struct {
	window int
	rest   string
	mode   int
	scan   int
	eat    bool
	events []api.Event
}

// modelFeed is Feed, for a window and a state that are allowed.
func modelFeed(window int, st api.Lexer, text string) (api.Lexer, []api.Event) {
	m := fedModel(window, st, text)
	return api.Lexer{Mode: m.mode, Scan: m.scan, Eat: m.eat, Held: m.rest}, m.events
}

// modelFinish is Finish, for a window and a state that are allowed.
func modelFinish(window int, st api.Lexer, broken bool) []api.Event {
	m := fedModel(window, st, "")
	switch {
	case broken || m.scan != 0 || m.rest == "" || m.mode > 1:
	case m.rest[0] == '&':
		m.unit(chars.Unref(m.rest, false))
	case m.mode == 0 && (m.rest == "<" || m.rest == "</"), m.mode == 1 && isBeginning(m.rest, 1):
		m.unit(m.rest)
	}
	return m.events
}

func fedModel(window int, st api.Lexer, text string) *model {
	m := &model{window: window, rest: st.Held + text, mode: st.Mode, scan: st.Scan, eat: st.Eat}
	for m.rest != "" && m.next() {
	}
	return m
}

func (m *model) unit(text string) {
	if m.eat && text == "\n" {
		text = ""
	}
	m.eat = false
	last := len(m.events) - 1
	switch {
	case text == "":
	case last >= 0 && m.events[last].Kind == api.KindText:
		m.events[last].Text += text
	default:
		m.events = append(m.events, api.Event{Kind: api.KindText, Text: text})
	}
}

func (m *model) next() bool {
	switch {
	case m.scan == api.ScanComment:
		return m.leave("-->", "--", "-")
	case m.scan == api.ScanBogus:
		return m.leave(">")
	case m.scan != 0:
		g := modelTag{rest: m.rest}
		g.begin(m.scan)
		m.rest, m.scan = g.rest, g.scan
		return true
	case m.rest[0] == '&' && m.mode <= 1:
		return m.run()
	case m.mode == 0:
		return m.data()
	case m.mode == 10:
		m.rest = ""
		return true
	}
	switch {
	case modelEnds[m.mode].MatchString(m.rest):
		return m.tag()
	case isBeginning(m.rest, m.mode):
		return false
	case m.mode == 1:
		m.unit(m.rest[:1])
	}
	m.rest = m.rest[1:]
	return true
}

// leave skips up to the ending, or keeps the first of the parts that stands at the end.
func (m *model) leave(ending string, parts ...string) bool {
	_, behind, found := strings.Cut(m.rest, ending)
	if found {
		m.rest, m.scan = behind, 0
		return true
	}
	for _, part := range parts {
		if strings.HasSuffix(m.rest, part) {
			m.rest = part
			return false
		}
	}
	m.rest = ""
	return false
}

func (m *model) data() bool {
	switch {
	case m.rest == "<", m.rest == "</", m.rest == "<!", m.rest == "<!-":
		return false
	case modelTagAt.MatchString(m.rest):
		return m.tag()
	case strings.HasPrefix(m.rest, "<!--"):
		m.scan, m.eat, m.rest = api.ScanComment, false, m.rest[2:]
	case modelBogusAt.MatchString(m.rest):
		m.scan, m.eat, m.rest = api.ScanBogus, false, m.rest[2:]
	default:
		m.unit(m.rest[:1])
		m.rest = m.rest[1:]
	}
	return true
}

func (m *model) run() bool {
	run := modelRunAt.FindString(m.rest)
	run = run[:min(len(run), 32)]
	if len(run) < 32 {
		if run == m.rest {
			return false
		}
		if m.rest[len(run)] == ';' {
			run += ";"
		}
	}
	m.unit(chars.Unref(run, false))
	m.rest = m.rest[len(run):]
	return true
}

func (m *model) tag() bool {
	front := modelTagAt.FindString(m.rest)
	g := modelTag{rest: m.rest[len(front)-1:]}
	g.begin(api.ScanName)
	length := len(m.rest) - len(g.rest)
	if g.scan != 0 && length <= m.window {
		return false
	}
	mode, eat, event := 0, false, api.Event{Kind: api.KindEnd, Name: g.name}
	if front[1] != '/' {
		event = api.Event{Kind: api.KindStart, Name: g.name, Attrs: g.attrs}
		eat = g.name == "pre" || g.name == "textarea"
		for i := 1; i <= 10; i++ {
			if g.name == modelNames[i] {
				mode = i
			}
		}
	}
	if length <= m.window {
		m.events = append(m.events, event)
	}
	m.rest, m.scan, m.mode, m.eat = g.rest, g.scan, mode, eat
	return true
}
