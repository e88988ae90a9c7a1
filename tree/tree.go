// Package tree knows which lists of nodes are trees.
package tree

import (
	"scrub/api"
	"scrub/vocabulary"
)

// IsShaped tells whether a list of nodes is a tree in document order.
func IsShaped(nodes []api.Node) bool {
	deepest := 0 // where the next node may stand
	for _, n := range nodes {
		isText := n.Name == ""
		switch {
		case n.Depth < 0 || deepest < n.Depth:
			return false
		case isText && len(n.Attrs) > 0:
			return false
		case !isText && n.Text != "":
			return false
		}
		deepest = n.Depth
		if !isText && !vocabulary.IsVoid(n.Name) {
			deepest++
		}
	}
	return true
}
