// Package side provides the layers with ways to walk over right-hand sides of
// transducers.
package side

import (
	"boskage/api"
	"iter"
)

// Call returns a call of a state for a subtree.
func Call(state, kid int) api.Out {
	return api.Out{Call: true, State: state, Kid: kid}
}

// Nodes yields the nodes of x in preorder. It looks at what is below a node only
// after it has yielded the node.
func Nodes(x api.Out) iter.Seq[api.Out] {
	return func(yield func(api.Out) bool) {
		var visit func(x api.Out) bool
		visit = func(x api.Out) bool {
			if !yield(x) {
				return false
			}
			for _, kid := range x.Kids {
				if !visit(kid) {
					return false
				}
			}
			return true
		}
		visit(x)
	}
}

// Calls yields the calls in x in preorder.
func Calls(x api.Out) iter.Seq[api.Out] {
	return func(yield func(api.Out) bool) {
		for node := range Nodes(x) {
			if node.Call && !yield(node) {
				return
			}
		}
	}
}
