package path

import (
	"boskage/api"
	"boskage/hedge"
	"iter"
	"slices"
)

// documentNode stands for the document node, beside the numbers of the nodes.
const documentNode = -1

// predicate says something of each node.
type predicate func(node int) bool

// document is an unranked tree on which paths are evaluated.
type document struct {
	infos []hedge.Info
}

// newDocument returns the document of x, on which p is to be evaluated.
func newDocument(n int, p Path, x api.Node) (*document, api.Errno) {
	if !Valid(n, p) {
		return nil, api.ErrArg
	}
	infos, e := hedge.Nodes(n, x)
	if e != api.OK {
		return nil, e
	}
	return &document{infos}, api.OK
}

// Select returns the nodes that p selects in x.
func Select(n int, p Path, x api.Node) ([]int, api.Errno) {
	d, e := newDocument(n, p, x)
	if e != api.OK {
		return nil, e
	}
	return d.selected(p, documentNode), api.OK
}

// From returns the nodes that p selects from the node v of x.
func From(n int, p Path, x api.Node, v int) ([]int, api.Errno) {
	d, e := newDocument(n, p, x)
	if e != api.OK {
		return nil, e
	}
	if !d.has(v) {
		return nil, api.ErrRange
	}
	return d.selected(p, v), api.OK
}

// Passes reports whether the node v of x passes the last step of p.
func Passes(n int, p Path, x api.Node, v int) (bool, api.Errno) {
	d, e := newDocument(n, p, x)
	if e != api.OK {
		return false, e
	}
	if !d.has(v) {
		return false, api.ErrRange
	}
	last := p.Steps[len(p.Steps)-1]
	return d.passing(last)(v), api.OK
}

func (d *document) has(node int) bool {
	return node >= 0 && node < len(d.infos)
}

// last returns the last node of the subtree of a node.
func (d *document) last(node int) int {
	if node == documentNode {
		return len(d.infos) - 1
	}
	return d.infos[node].Last
}

// along yields the nodes to which an axis leads from a node.
func (d *document) along(axis, node int) iter.Seq[int] {
	switch axis {
	case Desc:
		return d.between(node, d.last(node), func(v int) int { return v })
	case Child:
		return d.between(node, d.last(node), d.last)
	}
	if node == documentNode {
		return d.between(node, node, d.last)
	}
	return d.between(d.last(node), d.last(d.infos[node].Parent), d.last)
}

// between yields nodes after one node and up to another one: the first of them,
// and after each of them the node that comes after its end.
func (d *document) between(after, upTo int, end func(node int) int) iter.Seq[int] {
	return func(yield func(int) bool) {
		for next := after + 1; next <= upTo; next = end(next) + 1 {
			if !yield(next) {
				return
			}
		}
	}
}

// selected returns the nodes that p selects from a node.
func (d *document) selected(p Path, node int) []int {
	nodes := []int{node}
	for _, s := range p.Steps {
		nodes = d.reached(s.Axis, nodes, d.passing(s))
	}
	return nodes
}

// reached returns, in increasing order, the nodes that an axis reaches from some
// of the given nodes and that pass.
func (d *document) reached(axis int, from []int, passes predicate) []int {
	found := make([]bool, len(d.infos))
	for _, node := range from {
		for next := range d.along(axis, node) {
			found[next] = true
		}
	}
	var nodes []int
	for node, is := range found {
		if is && passes(node) {
			nodes = append(nodes, node)
		}
	}
	return nodes
}

// passing returns a function that reports whether a node passes a step.
func (d *document) passing(s Step) predicate {
	var starts []predicate
	for _, t := range s.Tests {
		starts = append(starts, d.starting(t.Path))
	}
	return func(node int) bool {
		if s.Label != anyLabel && s.Label != d.infos[node].Label {
			return false
		}
		for i, t := range s.Tests {
			if starts[i](node) == t.Not {
				return false
			}
		}
		return true
	}
}

// starting returns a function that reports whether p selects some node from a
// node. It asks from the last step to the first one, so that each step is
// evaluated once for each node, however the tests are nested.
func (d *document) starting(p Path) predicate {
	good := func(int) bool { return true }
	for _, s := range slices.Backward(p.Steps) {
		passes, goesOn := d.passing(s), good
		good = d.leading(s.Axis, func(node int) bool { return passes(node) && goesOn(node) })
	}
	return good
}

// leading returns a function that reports whether an axis leads from a node to
// some good one.
func (d *document) leading(axis int, good predicate) predicate {
	leads := make([]bool, len(d.infos))
	isGood := make([]bool, len(d.infos))
	for node := range isGood {
		isGood[node] = good(node)
	}
	for node := range leads {
		for next := range d.along(axis, node) {
			if isGood[next] {
				leads[node] = true
				break
			}
		}
	}
	return func(node int) bool { return leads[node] }
}
