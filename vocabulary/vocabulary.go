// Package vocabulary knows the elements and attributes that there are, and
// which element may stand in which.
package vocabulary

// Class says what a thing is.
type Class int

// Classes. No element is of ClassText; an unknown one is of ClassNone.
const (
	ClassNone Class = iota
	ClassFlow
	ClassPhrasing
	ClassText
	ClassItem
	ClassSection
	ClassRow
	ClassCell
)

// Model says what an element takes inside.
type Model int

// Models. The root's is ModelFlow; an unknown element's is ModelNone.
const (
	ModelNone Model = iota
	ModelFlow
	ModelPhrasing
	ModelText
	ModelList
	ModelTable
	ModelSection
	ModelRow
	ModelCell
	ModelVoid
)

// Element is a known element. The zero Element stands for an unknown one.
type Element struct {
	Name  string
	Class Class
	Model Model
}

// kind holds the names of the elements that have class and model in common.
type kind struct {
	names []string
	class Class
	model Model
}

// kinds holds all known elements.
var kinds = [12]kind{
	{[]string{"a", "b", "code", "em", "i", "q", "s", "small", "span", "strong", "sub", "sup", "u"}, ClassPhrasing, ModelPhrasing},
	{[]string{"br", "img"}, ClassPhrasing, ModelVoid},
	{[]string{"textarea"}, ClassPhrasing, ModelText},
	{[]string{"h1", "h2", "h3", "h4", "h5", "h6", "p", "pre"}, ClassFlow, ModelPhrasing},
	{[]string{"blockquote", "div"}, ClassFlow, ModelFlow},
	{[]string{"hr"}, ClassFlow, ModelVoid},
	{[]string{"ol", "ul"}, ClassFlow, ModelList},
	{[]string{"table"}, ClassFlow, ModelTable},
	{[]string{"li"}, ClassItem, ModelFlow},
	{[]string{"tbody", "tfoot", "thead"}, ClassSection, ModelSection},
	{[]string{"tr"}, ClassRow, ModelRow},
	{[]string{"td", "th"}, ClassCell, ModelCell},
}

// attributes holds all known attributes.
var attributes = [15]string{
	"alt", "cite", "class", "colspan", "dir", "height", "href", "id",
	"lang", "rel", "rowspan", "src", "start", "title", "width",
}

// Find looks for the known element of a name.
func Find(name string) (element Element, known bool) {
	for _, k := range kinds {
		for _, one := range k.names {
			if one == name {
				return Element{Name: one, Class: k.class, Model: k.model}, true
			}
		}
	}
	return Element{}, false
}

// IsVoid tells whether e never holds anything and has no end tag.
func (e Element) IsVoid() bool {
	return e.Model == ModelVoid
}

// IsVoid tells whether there is a void element of a name.
func IsVoid(name string) bool {
	element, _ := Find(name)
	return element.IsVoid()
}

// IsTable tells whether e is a table element.
func (e Element) IsTable() bool {
	switch e.Model {
	case ModelTable, ModelSection, ModelRow, ModelCell:
		return true
	}
	return false
}

// EatsNewline tells whether a newline right behind the start tag of an element
// is lost when it is read, so that whoever writes one there has to write two.
func EatsNewline(name string) bool {
	return name == "pre" || name == "textarea"
}

// IsAttribute tells whether there is an attribute of a name.
func IsAttribute(name string) bool {
	for _, one := range attributes {
		if one == name {
			return true
		}
	}
	return false
}

// IsLink tells whether an attribute's value is a link.
func IsLink(name string) bool {
	return name == "cite" || name == "href" || name == "src"
}
