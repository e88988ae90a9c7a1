package vocabulary_test

import (
	"slices"
	"strings"
	"testing"

	"scrub/vocabulary"
)

// The tables of chapter 2, as the document has them.
const (
	listOfElements = `a, b, code, em, i, q, s, small, span, strong, sub, sup, u | phrasing | phrasing
br, img | phrasing | void
textarea | phrasing | text
h1, h2, h3, h4, h5, h6, p, pre | flow | phrasing
blockquote, div | flow | flow
hr | flow | void
ol, ul | flow | list
table | flow | table
li | item | flow
tbody, tfoot, thead | section | section
tr | row | row
td, th | cell | cell`

	listOfPlaces = `model | flow | phrasing | text | item | section | row | cell
flow | take | take | take | up | up | up | up
phrasing | up | take | take | up | up | up | up
text | up | up | take | up | up | up | up
list | li | li | li | take | up | up | up
table | tbody tr td | tbody tr td | tbody tr td | stop | take | tbody | tbody tr
section | tr td | tr td | tr td | stop | up | take | tr
row | td | td | td | stop | up | up | take
cell | take | take | take | stop | up | up | up`

	listOfAttributes = "alt, cite, class, colspan, dir, height, href, id, lang, rel, rowspan, src, start, title, width"
	listOfLinks      = "cite, href, src"
	listOfVoids      = "br, hr, img"
	listOfTables     = "table, tbody, tfoot, thead, tr, td, th"
	listOfEaters     = "pre, textarea"
)

var classes = map[string]vocabulary.Class{
	"flow": vocabulary.ClassFlow, "phrasing": vocabulary.ClassPhrasing, "text": vocabulary.ClassText, "item": vocabulary.ClassItem,
	"section": vocabulary.ClassSection, "row": vocabulary.ClassRow, "cell": vocabulary.ClassCell,
}

var models = map[string]vocabulary.Model{
	"flow": vocabulary.ModelFlow, "phrasing": vocabulary.ModelPhrasing, "text": vocabulary.ModelText, "list": vocabulary.ModelList,
	"table": vocabulary.ModelTable, "section": vocabulary.ModelSection, "row": vocabulary.ModelRow, "cell": vocabulary.ModelCell,
	"void": vocabulary.ModelVoid,
}

var unknown = []string{
	"", " ", "B", "Table", "b ", " b", "bb", "h", "h0", "h7", "tab", "tables", "a, b", "a b", "script", "style", "svg", "math", "template",
	"title", "iframe", "noscript", "plaintext", "xmp", "form", "input", "Pre", "listing", "caption", "col", "colgroup", "dl", "b\x00", "\xff",
}

func has(list, name string) bool {
	return slices.Contains(strings.Split(list, ", "), name)
}

func TestEveryElement(t *testing.T) {
	count := 0
	for _, row := range strings.Split(listOfElements, "\n") {
		cells := strings.Split(row, " | ")
		for _, name := range strings.Split(cells[0], ", ") {
			count++
			want := vocabulary.Element{Name: name, Class: classes[cells[1]], Model: models[cells[2]]}
			got, known := vocabulary.Find(name)
			if !known || got != want {
				t.Errorf("Find(%q) = %v, %v, want %v", name, got, known, want)
			}
			if got.IsVoid() != has(listOfVoids, name) || got.IsTable() != has(listOfTables, name) {
				t.Errorf("%q: IsVoid %v, IsTable %v", name, got.IsVoid(), got.IsTable())
			}
			if vocabulary.IsVoid(name) != got.IsVoid() {
				t.Errorf("%q: IsVoid of the name is %v", name, vocabulary.IsVoid(name))
			}
			if got := vocabulary.EatsNewline(name); got != has(listOfEaters, name) {
				t.Errorf("%q: EatsNewline %v", name, got)
			}
			if upper, known := vocabulary.Find(strings.ToUpper(name)); known || upper != (vocabulary.Element{}) {
				t.Errorf("%q is known in capitals: %v", name, upper)
			}
		}
	}
	if count != 37 {
		t.Errorf("there are %d elements", count)
	}
}

func TestUnknownNames(t *testing.T) {
	for _, name := range unknown {
		element, known := vocabulary.Find(name)
		if known || element != (vocabulary.Element{}) || element.IsVoid() || vocabulary.IsVoid(name) || element.IsTable() || vocabulary.EatsNewline(name) {
			t.Errorf("Find(%q) = %v, %v", name, element, known)
		}
	}
	for _, name := range append(unknown[:3:3], "HREF", "onclick", "style", "srcset", "data", "action", "hre", "hreff", "alt, cite") {
		if vocabulary.IsAttribute(name) || vocabulary.IsLink(name) {
			t.Errorf("there is an attribute %q", name)
		}
	}
}

func TestEveryAttribute(t *testing.T) {
	names := strings.Split(listOfAttributes, ", ")
	if len(names) != 15 {
		t.Fatalf("there are %d attributes", len(names))
	}
	for _, name := range names {
		if !vocabulary.IsAttribute(name) || vocabulary.IsLink(name) != has(listOfLinks, name) {
			t.Errorf("%q: IsAttribute %v, IsLink %v", name, vocabulary.IsAttribute(name), vocabulary.IsLink(name))
		}
	}
}

// tell writes a place as the document does.
func tell(place vocabulary.Place) string {
	switch place {
	case vocabulary.Stop:
		return "stop"
	case vocabulary.Up:
		return "up"
	case vocabulary.Take:
		return "take"
	}
	return strings.Join(place.Implied(), " ")
}

func TestEveryPlace(t *testing.T) {
	rows := strings.Split(listOfPlaces, "\n")
	head := strings.Split(rows[0], " | ")
	for _, row := range rows[1:] {
		cells := strings.Split(row, " | ")
		for i := 1; i < len(cells); i++ {
			if got := tell(vocabulary.Nest(models[cells[0]], classes[head[i]])); got != cells[i] {
				t.Errorf("%s inside of %s: %s, want %s", head[i], cells[0], got, cells[i])
			}
		}
	}
}

func TestModelInside(t *testing.T) {
	var open []vocabulary.Element
	if got := vocabulary.ModelInside(open); got != vocabulary.ModelFlow {
		t.Errorf("the root's model is %d", got)
	}
	for _, name := range []string{"p", "ul", "textarea", "table", "td"} {
		element, _ := vocabulary.Find(name)
		open = append(open, element)
		if got := vocabulary.ModelInside(open); got != element.Model {
			t.Errorf("the model inside of %q is %d", name, got)
		}
	}
}

func TestPlacesOutsideTheTable(t *testing.T) {
	for model := vocabulary.Model(-2); model <= vocabulary.ModelVoid+2; model++ {
		for class := vocabulary.Class(-2); class <= vocabulary.ClassCell+2; class++ {
			inside := model >= vocabulary.ModelFlow && model < vocabulary.ModelVoid && class >= vocabulary.ClassFlow && class <= vocabulary.ClassCell
			if got := vocabulary.Nest(model, class); !inside && got != vocabulary.Stop {
				t.Errorf("Nest(%d, %d) = %s", model, class, tell(got))
			}
		}
	}
	for _, place := range []vocabulary.Place{-1, vocabulary.Stop, vocabulary.Up, vocabulary.Take, 99} {
		if names := place.Implied(); len(names) != 0 {
			t.Errorf("place %d implies %q", place, names)
		}
	}
}

// The elements that a place implies lead to the thing by the table itself.
func TestImpliedElementsNest(t *testing.T) {
	for _, model := range models {
		for _, class := range classes {
			place := vocabulary.Nest(model, class)
			inside := model
			for _, name := range place.Implied() {
				element, known := vocabulary.Find(name)
				if !known || vocabulary.Nest(inside, element.Class) != vocabulary.Take {
					t.Errorf("%q does not stand in model %d", name, inside)
				}
				inside = element.Model
			}
			if len(place.Implied()) > 0 && vocabulary.Nest(inside, class) != vocabulary.Take {
				t.Errorf("class %d has no place behind what model %d implies", class, model)
			}
		}
	}
}

func TestImpliedIsNewMemory(t *testing.T) {
	place := vocabulary.Nest(vocabulary.ModelTable, vocabulary.ClassFlow)
	place.Implied()[0] = "spoiled"
	if got := tell(place); got != "tbody tr td" {
		t.Errorf("the list has become %q", got)
	}
}
