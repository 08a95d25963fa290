// Package tree is layer 1: alphabets and ranked trees. See shared/doc/01-tree.md.
package tree

import (
	"boskage/api"
	"cmp"
	"iter"
	"slices"
)

// ValidAlphabet reports whether a has at most MaxSymbols symbols, all with
// ranks from 0 to MaxRank.
func ValidAlphabet(a api.Alphabet) bool {
	if len(a.Ranks) > api.MaxSymbols {
		return false
	}
	for _, rank := range a.Ranks {
		if rank < 0 || rank > api.MaxRank {
			return false
		}
	}
	return true
}

// Valid reports whether a is valid and t is a valid tree over a.
func Valid(a api.Alphabet, t api.Tree) bool {
	if !ValidAlphabet(a) {
		return false
	}
	nodes := 0
	for _, x := range subtrees(t) {
		nodes++
		if nodes > api.MaxSize || !fits(a, x) {
			return false
		}
	}
	return true
}

// fits reports whether the root of t has a symbol of a and as many subtrees as
// the rank of that symbol.
func fits(a api.Alphabet, t api.Tree) bool {
	return t.Sym >= 0 && t.Sym < len(a.Ranks) && len(t.Kids) == a.Ranks[t.Sym]
}

// Size returns the number of nodes of any tree.
func Size(t api.Tree) int {
	nodes := 0
	for range subtrees(t) {
		nodes++
	}
	return nodes
}

// Depth returns the depth of any tree.
func Depth(t api.Tree) int {
	deepest := 0
	for pos := range subtrees(t) {
		deepest = max(deepest, len(pos)+1)
	}
	return deepest
}

// mark is what the order of trees looks at in the root of a tree.
type mark struct {
	size, sym int
}

// Compare returns -1, 0 or 1 if a comes before b, equals b or comes after b in
// the order of trees.
//
// Two lists of marks that agree up to a node belong to trees that agree in
// shape up to this node, so the first marks that differ are those of subtrees
// at one position. Computing each size once keeps this linear for deep trees.
func Compare(a, b api.Tree) int {
	return slices.CompareFunc(marks(a, nil), marks(b, nil), func(x, y mark) int {
		return cmp.Or(cmp.Compare(x.size, y.size), cmp.Compare(x.sym, y.sym))
	})
}

// marks appends the marks of all subtrees of t to list, in the order of their
// positions.
func marks(t api.Tree, list []mark) []mark {
	root := len(list)
	list = append(list, mark{sym: t.Sym})
	for _, kid := range t.Kids {
		list = marks(kid, list)
	}
	list[root].size = len(list) - root
	return list
}

// subtrees yields all subtrees of t with their positions, in lexicographic
// order of these. A position is only valid until the next one is yielded.
func subtrees(t api.Tree) iter.Seq2[[]int, api.Tree] {
	return func(yield func([]int, api.Tree) bool) {
		var pos []int
		var visit func(t api.Tree) bool
		visit = func(t api.Tree) bool {
			if !yield(pos, t) {
				return false
			}
			for i, kid := range t.Kids {
				pos = append(pos, i)
				if !visit(kid) {
					return false
				}
				pos = pos[:len(pos)-1]
			}
			return true
		}
		visit(t)
	}
}

// clone returns a copy of t that shares no memory with it.
func clone(t api.Tree) api.Tree {
	kids := slices.Clone(t.Kids)
	for i, kid := range kids {
		kids[i] = clone(kid)
	}
	return api.Tree{Sym: t.Sym, Kids: kids}
}
