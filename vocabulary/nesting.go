package vocabulary

// Place says where a thing has its place, seen from an element that it comes up in.
type Place int

// Places. The last six mean that the thing may stand here once the elements
// that Implied names have been opened.
const (
	Stop Place = iota // nowhere
	Up                // outside, if anywhere
	Take              // here
	inItem
	inBody
	inBodyRow
	inBodyRowCell
	inRow
	inRowCell
	inCell
)

// nesting holds the place of each class, from ClassFlow on, in each model,
// from ModelFlow on.
var nesting = [8][7]Place{
	{Take, Take, Take, Up, Up, Up, Up},
	{Up, Take, Take, Up, Up, Up, Up},
	{Up, Up, Take, Up, Up, Up, Up},
	{inItem, inItem, inItem, Take, Up, Up, Up},
	{inBodyRowCell, inBodyRowCell, inBodyRowCell, Stop, Take, inBody, inBodyRow},
	{inRowCell, inRowCell, inRowCell, Stop, Up, Take, inRow},
	{inCell, inCell, inCell, Stop, Up, Up, Take},
	{Take, Take, Take, Stop, Up, Up, Up},
}

// Nest tells where a thing of some class has its place, seen from an element of
// some model. Where one of the two is not in the nesting table, it has none.
func Nest(model Model, class Class) Place {
	if model < ModelFlow || ModelCell < model || class < ClassFlow || ClassCell < class {
		return Stop
	}
	return nesting[model-ModelFlow][class-ClassFlow]
}

// ModelInside is what is taken inside the innermost of the open elements, which
// go from the outermost to the innermost. Where none is open it is the root's.
func ModelInside(open []Element) Model {
	if len(open) == 0 {
		return ModelFlow
	}
	return open[len(open)-1].Model
}

// Implied names the elements that have to be opened ahead of the thing,
// the outermost first.
func (p Place) Implied() []string {
	switch p {
	case inItem:
		return []string{"li"}
	case inBody:
		return []string{"tbody"}
	case inBodyRow:
		return []string{"tbody", "tr"}
	case inBodyRowCell:
		return []string{"tbody", "tr", "td"}
	case inRow:
		return []string{"tr"}
	case inRowCell:
		return []string{"tr", "td"}
	case inCell:
		return []string{"td"}
	}
	return nil
}
