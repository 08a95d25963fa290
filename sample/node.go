package sample

import (
	"boskage/api"
	"slices"
)

// Node makes an unranked tree.
func Node(label int, kids ...api.Node) api.Node {
	return api.Node{Label: label, Kids: kids}
}

// ChainNode makes an unranked tree of n nodes with a label, one below the
// other.
func ChainNode(n, label int) api.Node {
	x := Node(label)
	for range n - 1 {
		x = Node(label, x)
	}
	return x
}

// Row makes n unranked trees of one node.
func Row(n, label int) []api.Node {
	return slices.Repeat([]api.Node{Node(label)}, n)
}

// Documents returns all unranked trees over some labels with at most so many
// nodes, in the order of their encodings.
func Documents(labels, most int) []api.Node {
	hedges := [][][]api.Node{{{}}}
	var trees []api.Node
	for size := 1; size <= most; size++ {
		var list [][]api.Node
		for label := range labels {
			for below := range size {
				for _, kids := range hedges[below] {
					first := Node(label, kids...)
					for _, rest := range hedges[size-1-below] {
						list = append(list, append([]api.Node{first}, rest...))
					}
					if below == size-1 {
						trees = append(trees, CopyNode(first))
					}
				}
			}
		}
		hedges = append(hedges, list)
	}
	return trees
}

// RandomNode makes an unranked tree over some labels with n nodes.
func RandomNode(s *Source, labels, n int) api.Node {
	x := Node(s.Below(labels))
	for left := n - 1; left > 0; {
		size := 1 + s.Below(left)
		kid := RandomNode(s, labels, size)
		x.Kids = append(x.Kids, kid)
		left -= size
	}
	return x
}

// BadNodes returns unranked trees that are not valid over some labels.
func BadNodes(labels int) []api.Node {
	return []api.Node{
		Node(-1), Node(labels), Node(1 << 40), Node(-1 << 63),
		Node(0, Node(0), Node(labels)), Node(0, Node(0, Node(-1)), Node(0)),
		ChainNode(api.MaxSize+1, 0), ChainNode(100000, 0), Node(0, Row(api.MaxSize, 0)...), Node(0, Row(100000, 0)...),
	}
}

// NodeSize returns the number of nodes of an unranked tree.
func NodeSize(x api.Node) int {
	size := 1
	for _, kid := range x.Kids {
		size += NodeSize(kid)
	}
	return size
}

// Encoding returns the binary encoding of a hedge over some labels.
func Encoding(labels int, h ...api.Node) api.Tree {
	if len(h) == 0 {
		return Tree(labels)
	}
	return Tree(h[0].Label, Encoding(labels, h[0].Kids...), Encoding(labels, h[1:]...))
}

// EqualNodes reports whether two unranked trees are the same, where an empty
// list equals nil.
func EqualNodes(x, y api.Node) bool {
	return x.Label == y.Label && slices.EqualFunc(x.Kids, y.Kids, EqualNodes)
}

// CopyNode copies an unranked tree with all its memory.
func CopyNode(x api.Node) api.Node {
	x.Kids = slices.Clone(x.Kids)
	for i, kid := range x.Kids {
		x.Kids[i] = CopyNode(kid)
	}
	return x
}

// ShareNodes reports whether two lists of children in the unranked trees share
// memory, up to their capacities.
func ShareNodes(trees ...api.Node) bool {
	return share(trees, func(x api.Node) []api.Node { return x.Kids })
}

// ShowNode returns an unranked tree as a text, with a letter for each label.
func ShowNode(x api.Node) string {
	text := string(rune('a' + x.Label))
	if len(x.Kids) == 0 {
		return text
	}
	mark := "("
	for _, kid := range x.Kids {
		text += mark + ShowNode(kid)
		mark = " "
	}
	return text + ")"
}
