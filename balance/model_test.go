package balance_test

import (
	"math/rand"
	"strings"
	"testing"

	"scrub/api"
	"scrub/balance"
	"scrub/eventtest"
	"scrub/vocabulary"
)

const allNames = "a b code em i q s small span strong sub sup u br img textarea h1 h2 h3 h4 h5 h6 p pre blockquote div hr ol ul table li tbody tfoot thead tr td th"

// model balances by the words of chapter 6, in another way than the program:
// what is open is a list of names, and the answer is a text in the short form.
type model struct {
	depth int
	open  []string
	out   string
}

func modelBalance(depth int, events []api.Event) string {
	m := &model{depth: depth}
	for _, e := range events {
		switch e.Kind {
		case api.KindStart:
			m.start(e)
		case api.KindEnd:
			m.end(e.Name)
		case api.KindText:
			// A text is the same wherever it is cut, so it may as well come byte by byte.
			for i := range len(e.Text) {
				m.char(e.Text[i : i+1])
			}
		}
	}
	m.close(len(m.open))
	return strings.ReplaceAll(m.out, "][", "")
}

// path is the models from the root to the innermost open element.
func (m *model) path() []vocabulary.Model {
	path := []vocabulary.Model{vocabulary.ModelFlow}
	for _, name := range m.open {
		element, _ := vocabulary.Find(name)
		path = append(path, element.Model)
	}
	return path
}

func (m *model) close(count int) {
	for range count {
		m.out += "</" + m.open[len(m.open)-1] + ">"
		m.open = m.open[:len(m.open)-1]
	}
}

func (m *model) openAll(names []string) {
	for _, name := range names {
		m.out += "<" + name + ">"
		m.open = append(m.open, name)
	}
}

func (m *model) start(e api.Event) {
	element, known := vocabulary.Find(e.Name)
	if !known {
		return
	}
	passed := 0
	if at := strings.LastIndex(" "+strings.Join(m.open, " ")+" ", " a "); e.Name == "a" && at >= 0 {
		inside := strings.Fields(strings.Join(m.open, " ")[at:])
		passed = len(inside)
	}
	path := m.path()
	for vocabulary.Nest(path[len(path)-1-passed], element.Class) == vocabulary.Up {
		passed++
		if passed > len(m.open) {
			return
		}
	}
	place := vocabulary.Nest(path[len(path)-1-passed], element.Class)
	if place == vocabulary.Stop || len(m.open)-passed+len(place.Implied())+1 > m.depth {
		return
	}
	m.close(passed)
	m.openAll(place.Implied())
	m.out += eventtest.Show([]api.Event{{Kind: api.KindStart, Name: e.Name, Attrs: e.Attrs}})
	if !strings.Contains(" br hr img ", " "+e.Name+" ") {
		m.open = append(m.open, e.Name)
	}
}

func (m *model) char(c string) {
	path := m.path()
	place := vocabulary.Nest(path[len(path)-1], vocabulary.ClassText)
	if place != vocabulary.Take {
		if strings.Contains("\t\n\f\r ", c) || len(m.open)+len(place.Implied()) > m.depth {
			return
		}
		m.openAll(place.Implied())
	}
	m.out += "[" + c + "]"
}

// walls holds the walls of each name that is not like most.
var walls = map[string]string{
	"tbody": " table ", "tfoot": " table ", "thead": " table ", "tr": " table ", "td": " table ", "th": " table ",
	"table": "",
	"li":    " ul ol table tbody tfoot thead tr td th ",
}

func (m *model) end(name string) {
	wall, special := walls[name]
	if !special {
		wall = " table tbody tfoot thead tr td th "
	}
	for passed := range len(m.open) {
		open := m.open[len(m.open)-1-passed]
		if open == name {
			m.close(passed + 1)
			return
		}
		if strings.Contains(wall, " "+open+" ") {
			return
		}
	}
}

// checkModel holds one answer against the model, and against what P14 says of every answer.
func checkModel(t *testing.T, depth int, events []api.Event) {
	t.Helper()
	got := balance.Balance(depth, events)
	if want := modelBalance(depth, events); eventtest.Show(got) != want {
		t.Fatalf("Balance(%d, %s) = %s, want %s", depth, eventtest.Show(events), eventtest.Show(got), want)
	}
	if fault := faultOf(depth, got); fault != "" {
		t.Fatalf("Balance(%d, %s) = %s: %s", depth, eventtest.Show(events), eventtest.Show(got), fault)
	}
	if again := balance.Balance(depth, got); !eventtest.Same(again, got) {
		t.Fatalf("Balance(%d, %s) = %s, want the same", depth, eventtest.Show(got), eventtest.Show(again))
	}
}

// faultOf tells why events are not well nested.
func faultOf(depth int, events []api.Event) string {
	var open []string
	inside := []vocabulary.Model{vocabulary.ModelFlow}
	for i, e := range events {
		element, known := vocabulary.Find(e.Name)
		class := element.Class
		switch {
		case e.Kind == api.KindText && (e.Text == "" || i > 0 && events[i-1].Kind == api.KindText):
			return "an empty text or two side by side"
		case e.Kind == api.KindText:
			class = vocabulary.ClassText
		case !known:
			return "an unknown name"
		case e.Kind == api.KindEnd && (len(open) == 0 || open[len(open)-1] != e.Name):
			return "an end of what is not the innermost"
		}
		if e.Kind == api.KindEnd {
			open, inside = open[:len(open)-1], inside[:len(inside)-1]
			continue
		}
		if vocabulary.Nest(inside[len(inside)-1], class) != vocabulary.Take {
			return "a thing where it may not stand"
		}
		if e.Kind == api.KindStart {
			if e.Name == "a" && strings.Contains(" "+strings.Join(open, " ")+" ", " a ") {
				return "an a in an a"
			}
			if len(open)+1 > depth {
				return "it is too deep"
			}
			if !element.IsVoid() {
				open, inside = append(open, e.Name), append(inside, element.Model)
			}
		}
	}
	if len(open) > 0 {
		return "something is left open"
	}
	return ""
}

func TestShortSequencesAgainstModel(t *testing.T) {
	var all []api.Event
	for _, name := range strings.Fields("a b br textarea p div hr ul li table tbody thead tr td svg") {
		all = append(all, api.Event{Kind: api.KindStart, Name: name}, api.Event{Kind: api.KindEnd, Name: name})
	}
	all = append(all, eventtest.Read("[x][ ][ x]?")...)
	var each func(events []api.Event, left int)
	each = func(events []api.Event, left int) {
		for depth := 1; depth <= 6; depth++ {
			checkModel(t, depth, events)
		}
		if left == 0 {
			return
		}
		for _, e := range all {
			each(append(events[:len(events):len(events)], e), left-1)
		}
	}
	each(nil, 3)
	each(eventtest.Read("<table><td>"), 2)
	each(eventtest.Read("<div><ul><li><p><b>"), 2)
	each(eventtest.Read("<ul><li><table><tr><th><table><thead><td><a><i>"), 2)
}

// Each element is opened and closed in each other one, at each depth that matters.
func TestAllPairsAgainstModel(t *testing.T) {
	names := strings.Fields(allNames)
	if len(names) != 37 {
		t.Fatalf("there are %d names", len(names))
	}
	for _, outer := range names {
		for _, inner := range names {
			for depth := 1; depth <= 9; depth++ {
				for _, form := range []string{
					"<O><I>[x]", "<O>[x]<I k=v>[y]</O>[z]", "<O><I>[x]</I>[y]</O>", "<O><b><I></O>[x]</I>[y]", "<table><td><O>[x]<I></td>[y]</O>",
					"<ul><O>[x]<I></li>[y]</O>",
				} {
					checkModel(t, depth, eventtest.Read(strings.NewReplacer("O", outer, "I", inner).Replace(form)))
				}
			}
		}
	}
}

func randomEvents(random *rand.Rand, names []string, count int) []api.Event {
	texts := []string{"x", " ", " x ", "\n", "", "\t\f\r\ny"}
	var events []api.Event
	for range count {
		e := api.Event{Kind: 1 + random.Intn(3), Name: names[random.Intn(len(names))], Text: texts[random.Intn(len(texts))]}
		if random.Intn(30) == 0 {
			e.Kind = random.Intn(9) - 2
		}
		if random.Intn(5) == 0 {
			e.Attrs = []api.Attr{{Name: "id", Value: "v"}, {Name: "id", Value: "w"}}
		}
		events = append(events, e)
	}
	return events
}

func TestLongSequencesAgainstModel(t *testing.T) {
	random := rand.New(rand.NewSource(7))
	sets := [][]string{
		strings.Fields(allNames + " svg B script"),
		strings.Fields("table tbody thead tr td th b li ul a p"),
		strings.Fields("ul ol li p b a div br"),
		strings.Fields("table td div"),
	}
	for i := range 40000 {
		events := randomEvents(random, sets[i%len(sets)], 1+random.Intn(60))
		depth := 1 + random.Intn(14)
		if i%10 == 0 {
			depth = 1 + random.Intn(256)
		}
		checkModel(t, depth, events)
	}
	for depth := 1; depth <= 256; depth++ {
		checkModel(t, depth, randomEvents(random, sets[3], 900))
	}
}

// Where a text is cut makes no difference, empty texts and events that are lost
// in between neither.
func TestCutTexts(t *testing.T) {
	random := rand.New(rand.NewSource(8))
	for range 20000 {
		whole := randomEvents(random, strings.Fields("ul li table tr td p b a"), 1+random.Intn(30))
		cut := eventtest.CutTexts(random.Intn, whole)
		depth := 1 + random.Intn(9)
		want := balance.Balance(depth, whole)
		if got := balance.Balance(depth, cut); !eventtest.Same(got, want) {
			t.Fatalf("Balance(%d, %s) = %s, want %s", depth, eventtest.Show(cut), eventtest.Show(got), eventtest.Show(want))
		}
	}
}

// A text of many pieces takes no longer than its length asks.
func TestManyPiecesOfText(t *testing.T) {
	piece := api.Event{Kind: api.KindText, Text: "abcd"}
	events := make([]api.Event, 1000000)
	for i := range events {
		events[i] = piece
	}
	got := balance.Balance(1, events)
	if len(got) != 1 || got[0].Text != strings.Repeat("abcd", len(events)) {
		t.Errorf("Balance gives %d events", len(got))
	}
}
