// Package hedge is layer 2: unranked trees, hedges and their binary encoding.
// See shared/doc/02-hedge.md.
package hedge

import (
	"boskage/api"
	"boskage/tree"
	"iter"
)

// Info describes a node of an unranked tree: its label, the number of its
// parent in document order, its index among the children of its parent, and
// the number of its last descendant (or of itself).
type Info struct {
	Label, Parent, Index, Last int
}

// Valid reports whether x is a valid unranked tree over n labels.
func Valid(n int, x api.Node) bool {
	return ValidHedge(n, []api.Node{x})
}

// ValidHedge reports whether h is a valid hedge over n labels.
func ValidHedge(n int, h []api.Node) bool {
	if !validLabels(n) {
		return false
	}
	for number, x := range nodes(h) {
		if number >= api.MaxSize || x.Label < 0 || x.Label >= n {
			return false
		}
	}
	return true
}

func validLabels(n int) bool {
	return n >= 1 && n <= api.MaxLabels
}

// Size returns the number of nodes of any hedge.
func Size(h []api.Node) int {
	size := 0
	for range nodes(h) {
		size++
	}
	return size
}

// Compare returns -1, 0 or 1 if a comes before b, equals b or comes after b.
func Compare(a, b api.Node) int {
	// With labels as symbols, this is the order of trees, which layer 1
	// provides for any trees.
	return tree.Compare(ranked(a), ranked(b))
}

// ranked returns x with its labels as symbols.
func ranked(x api.Node) api.Tree {
	kids := make([]api.Tree, len(x.Kids))
	for i, kid := range x.Kids {
		kids[i] = ranked(kid)
	}
	return api.Tree{Sym: x.Label, Kids: kids}
}

// Nodes describes each node of x, in document order.
func Nodes(n int, x api.Node) ([]Info, api.Errno) {
	if !Valid(n, x) {
		return nil, api.ErrArg
	}
	var infos []Info
	var collect func(x api.Node, parent, index int)
	collect = func(x api.Node, parent, index int) {
		number := len(infos)
		infos = append(infos, Info{Label: x.Label, Parent: parent, Index: index})
		for i, kid := range x.Kids {
			collect(kid, number, i)
		}
		infos[number].Last = len(infos) - 1
	}
	collect(x, -1, 0)
	return infos, api.OK
}

// nodes yields the nodes of h with their numbers, in document order.
func nodes(h []api.Node) iter.Seq2[int, api.Node] {
	return func(yield func(int, api.Node) bool) {
		next := 0
		var visit func(h []api.Node) bool
		visit = func(h []api.Node) bool {
			for _, x := range h {
				number := next
				next++
				if !yield(number, x) || !visit(x.Kids) {
					return false
				}
			}
			return true
		}
		visit(h)
	}
}
