package policy

import (
	"slices"

	"scrub/api"
	"scrub/ascii"
	"scrub/vocabulary"
)

// ruleNames is the names of the elements that have a rule.
func ruleNames(rules []api.Rule) []string {
	var names []string
	for _, rule := range rules {
		names = append(names, rule.Name)
	}
	return names
}

// hasTwice tells whether a word stands twice. It asks only of words that are few
// or all known, so that the first to stand twice stands near the beginning.
func hasTwice(words []string) bool {
	for i, word := range words {
		if slices.Contains(words[:i], word) {
			return true
		}
	}
	return false
}

func isUnknownElement(name string) bool {
	_, known := vocabulary.Find(name)
	return !known
}

func isUnknownAttribute(name string) bool {
	return !vocabulary.IsAttribute(name)
}

func listsUnknown(rule api.Rule) bool {
	return slices.ContainsFunc(rule.Attrs, isUnknownAttribute)
}

func listsTwice(rule api.Rule) bool {
	return hasTwice(rule.Attrs)
}

// isBadScheme tells whether word is no scheme or one that carries code.
func isBadScheme(word string) bool {
	switch word {
	case "javascript", "vbscript", "data":
		return true
	}
	return !isWord(word, "+-.")
}

// hasBadDrop tells whether something is wrong with the names in Drop.
func hasBadDrop(drop, elements []string) bool {
	if len(drop) > api.MaxDrop || hasTwice(drop) {
		return true
	}
	return slices.ContainsFunc(drop, func(name string) bool {
		return !isWord(name, "-") || neverEnds(name) || slices.Contains(elements, name)
	})
}

// neverEnds tells whether an element has no end tag, so that what is dropped
// with it would go on to the end of the input.
func neverEnds(name string) bool {
	switch name {
	case "area", "base", "br", "col", "embed", "hr", "img", "input", "link", "meta", "source", "track", "wbr":
		return true
	}
	return false
}

// isWord tells whether word is a small letter and then small letters, digits
// and signs, and has a length that a word may have.
func isWord(word, signs string) bool {
	return word != "" && len(word) <= api.MaxWord && ascii.WordLength(word, signs) == len(word)
}

// lacksParts tells whether a list or a table is allowed without what it is made
// of: the balancer opens these parts where they are implied.
func lacksParts(elements []string) bool {
	has := func(name string) bool { return slices.Contains(elements, name) }
	return (has("ul") || has("ol")) && !has("li") ||
		has("table") && !(has("tbody") && has("tr") && has("td"))
}
