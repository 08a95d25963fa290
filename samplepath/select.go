package samplepath

import (
	"boskage/api"
	"boskage/path"
	"slices"
)

// DocumentNode stands for the document node, beside the numbers of the nodes.
const DocumentNode = -1

// Document is an unranked tree: for each node in document order its label and
// its parent, which is the document node for the root.
type Document struct {
	Labels, Parents []int
}

// NewDocument returns the document of x.
func NewDocument(x api.Node) Document {
	var d Document
	d.add(x, DocumentNode)
	return d
}

func (d *Document) add(x api.Node, parent int) {
	node := len(d.Labels)
	d.Labels = append(d.Labels, x.Label)
	d.Parents = append(d.Parents, parent)
	for _, kid := range x.Kids {
		d.add(kid, node)
	}
}

// Leads reports whether an axis leads from a node, or from the document node, to
// another node.
func (d Document) Leads(axis, from, to int) bool {
	switch axis {
	case path.Child:
		return d.Parents[to] == from
	case path.Desc:
		return d.Parents[to] == from || d.Parents[to] != DocumentNode && d.Leads(path.Desc, from, d.Parents[to])
	}
	return from != DocumentNode && d.Parents[from] == d.Parents[to] && from < to
}

// Passes reports whether a node passes a step.
func (d Document) Passes(s path.Step, node int) bool {
	if s.Label != -1 && s.Label != d.Labels[node] {
		return false
	}
	return !slices.ContainsFunc(s.Tests, func(t path.Test) bool {
		return (len(d.From(t.Path, node)) > 0) == t.Not
	})
}

// From returns the nodes that p selects from a node, or from the document node.
func (d Document) From(p path.Path, node int) []int {
	from := []int{node}
	for _, s := range p.Steps {
		var next []int
		for to := range d.Labels {
			if slices.ContainsFunc(from, func(v int) bool { return d.Leads(s.Axis, v, to) }) && d.Passes(s, to) {
				next = append(next, to)
			}
		}
		from = next
	}
	return from
}

// Select returns the nodes that p selects in x.
func Select(p path.Path, x api.Node) []int {
	return NewDocument(x).From(p, DocumentNode)
}
