package markup

import (
	"slices"
	"strings"

	"scrub/api"
	"scrub/vocabulary"
)

// parser builds the tree of one text from tokens whose form is right. Its
// verdicts are on their places.
type parser struct {
	open  []vocabulary.Element // from the outermost to the innermost
	nodes []api.Node
	eat   bool // a newline that comes next is lost
}

// take takes the next token.
func (p *parser) take(token api.Event) (verdict int) {
	switch token.Kind {
	case api.KindStart:
		verdict = p.start(token)
	case api.KindEnd:
		verdict = p.end(token.Name)
	case api.KindText:
		verdict = p.addText(token.Text)
	}
	p.eat = token.Kind == api.KindStart && vocabulary.EatsNewline(token.Name)
	return verdict
}

// start takes a start tag.
func (p *parser) start(tag api.Event) (verdict int) {
	element, known := vocabulary.Find(tag.Name)
	switch {
	case p.isInTextarea():
		return api.RejectToken
	case !known:
		return api.RejectElement
	case len(p.open) >= api.MaxDepth:
		return api.RejectDepth
	}
	if verdict = p.judgeInTable(element); verdict == api.Accepted {
		verdict = p.judgeByOpen(element)
	}
	if verdict != api.Accepted {
		return verdict
	}
	p.nodes = append(p.nodes, api.Node{Depth: len(p.open), Name: element.Name, Attrs: tag.Attrs})
	if !element.IsVoid() {
		p.open = append(p.open, element)
	}
	return api.Accepted
}

// end takes an end tag.
func (p *parser) end(name string) (verdict int) {
	switch {
	case p.innermost().Name == name:
		p.open = p.open[:len(p.open)-1]
		return api.Accepted
	case p.isInTextarea():
		return api.RejectToken
	}
	return api.RejectClose
}

// addText takes a text.
func (p *parser) addText(text string) (verdict int) {
	if p.eat {
		// No reference stands for a newline, so this one was written as it is.
		text = strings.TrimPrefix(text, "\n")
	}
	if text == "" {
		return api.Accepted
	}
	switch p.innermostTable().Model {
	case vocabulary.ModelTable, vocabulary.ModelSection, vocabulary.ModelRow:
		if strings.Trim(text, "\t\n\f ") != "" {
			return api.RejectFoster
		}
	}
	p.nodes = append(p.nodes, api.Node{Depth: len(p.open), Text: text})
	return api.Accepted
}

// innermost is the innermost open element, the zero Element if none is open.
func (p *parser) innermost() vocabulary.Element {
	if len(p.open) == 0 {
		return vocabulary.Element{}
	}
	return p.open[len(p.open)-1]
}

// innermostTable is the innermost table element that is open, the zero Element
// if there is none.
func (p *parser) innermostTable() vocabulary.Element {
	for at := len(p.open) - 1; at >= 0; at-- {
		if p.open[at].IsTable() {
			return p.open[at]
		}
	}
	return vocabulary.Element{}
}

func (p *parser) isInTextarea() bool {
	return p.innermost().Model == vocabulary.ModelText
}

// judgeInTable judges an element by the table element that it stands in.
func (p *parser) judgeInTable(element vocabulary.Element) (verdict int) {
	isPart := element.IsTable() && element.Model != vocabulary.ModelTable
	table := p.innermostTable().Model
	switch {
	case table == vocabulary.ModelNone && isPart:
		return api.RejectStray
	case table == vocabulary.ModelCell && isPart:
		return api.RejectImplied
	case table == vocabulary.ModelNone, table == vocabulary.ModelCell, element.Class == partOf(table):
		return api.Accepted
	case element.IsTable():
		return api.RejectImplied
	}
	return api.RejectFoster
}

// partOf is the class of what a table element other than a cell is made of.
func partOf(table vocabulary.Model) vocabulary.Class {
	switch table {
	case vocabulary.ModelTable:
		return vocabulary.ClassSection
	case vocabulary.ModelSection:
		return vocabulary.ClassRow
	}
	return vocabulary.ClassCell
}

// judgeByOpen judges an element by those that it would close or move, were it
// left to a parser that repairs.
func (p *parser) judgeByOpen(element vocabulary.Element) (verdict int) {
	isItem := element.Class == vocabulary.ClassItem
	switch {
	case isItem && p.isItemNear():
		return api.RejectImplied
	case (isItem || element.Class == vocabulary.ClassFlow) && p.isNear("p", "table", "td", "th"):
		return api.RejectImplied
	case isHeading(element.Name) && isHeading(p.innermost().Name):
		return api.RejectImplied
	case element.Name == "a" && p.isNear("a", "td", "th"):
		return api.RejectAdoption
	}
	return api.Accepted
}

// isNear tells whether an element is open and none of the walls inside it.
func (p *parser) isNear(name string, walls ...string) bool {
	for at := len(p.open) - 1; at >= 0; at-- {
		if p.open[at].Name == name {
			return true
		}
		if slices.Contains(walls, p.open[at].Name) {
			return false
		}
	}
	return false
}

// isItemNear tells whether an li is open that a further li would close.
func (p *parser) isItemNear() bool {
	for at := len(p.open) - 1; at >= 0; at-- {
		open := p.open[at]
		if open.Class == vocabulary.ClassItem {
			return true
		}
		if open.Class != vocabulary.ClassPhrasing && open.Name != "div" && open.Name != "p" {
			return false
		}
	}
	return false
}

// isHeading tells whether name is one of h1 to h6.
func isHeading(name string) bool {
	return len(name) == 2 && name[0] == 'h' && '1' <= name[1] && name[1] <= '6'
}
