// Package sample provides the tests of the layers with alphabets, trees and
// automata, valid and not, and with plain definitions to compare results with.
// It uses no layer above tree.
package sample

import (
	"boskage/api"
	"boskage/tree"
	"slices"
)

// Source yields numbers that look random and are the same in each run of the
// tests.
type Source struct {
	last uint64
}

// Below returns a number from 0 to n - 1.
func (s *Source) Below(n int) int {
	s.last = s.last*6364136223846793005 + 1442695040888963407
	return int(s.last>>33) % n
}

// Alphabets returns valid alphabets: small ones, and some without trees.
func Alphabets() []api.Alphabet {
	return []api.Alphabet{
		{},
		{Ranks: []int{0}},
		{Ranks: []int{2, 1}},
		{Ranks: []int{0, 1}},
		{Ranks: []int{0, 2}},
		{Ranks: []int{1, 0, 0}},
		{Ranks: []int{0, 3}},
		{Ranks: []int{2, 0, 1}},
		{Ranks: []int{0, 0, 2}},
		{Ranks: []int{0, 1, 2, 3}},
	}
}

// BadAlphabets returns alphabets that are not valid.
func BadAlphabets() []api.Alphabet {
	return []api.Alphabet{
		{Ranks: []int{-1}},
		{Ranks: []int{0, 4}},
		{Ranks: []int{1 << 40, 0}},
		{Ranks: make([]int, api.MaxSymbols+1)},
		{Ranks: make([]int, 1000)},
	}
}

// Tree makes a tree.
func Tree(sym int, kids ...api.Tree) api.Tree {
	return api.Tree{Sym: sym, Kids: kids}
}

// Chain makes a tree of n nodes: a symbol of rank 1 above one of rank 0.
func Chain(n, sym, leaf int) api.Tree {
	t := Tree(leaf)
	for range n - 1 {
		t = Tree(sym, t)
	}
	return t
}

// Trees returns trees over al: all those with at most n nodes, where n is as
// large as possible for a list of 300 trees, and 9 at most.
func Trees(al api.Alphabet) []api.Tree {
	var all []api.Tree
	for size := 1; size <= 9; size++ {
		list, e := tree.All(al, size)
		if e != api.OK || len(all)+len(list) > 300 {
			break
		}
		all = append(all, list...)
	}
	return all
}

// BadTrees returns trees that are not valid over any alphabet, or not over
// this one.
func BadTrees(al api.Alphabet) []api.Tree {
	bad := []api.Tree{Tree(-1), Tree(len(al.Ranks)), Tree(1 << 40), Tree(0, make([]api.Tree, 4)...)}
	leaf := slices.Index(al.Ranks, 0)
	if leaf < 0 {
		return append(bad, Tree(0))
	}
	bad = append(bad, Tree(leaf, Tree(leaf)))
	for sym, rank := range al.Ranks {
		kids := make([]api.Tree, rank+1)
		for i := range kids {
			kids[i] = Tree(leaf)
		}
		bad = append(bad, Tree(sym, kids...))
		if rank > 0 {
			bad = append(bad, Tree(sym, kids[2:]...), Tree(sym, append(kids[:rank-1:rank-1], Tree(-1))...))
		}
		if rank == 1 {
			bad = append(bad, Chain(api.MaxSize+1, sym, leaf), Chain(5000, sym, leaf))
		}
	}
	return bad
}

// RandomTree makes a tree over al with at most n nodes. The alphabet needs a
// symbol of rank 0.
func RandomTree(s *Source, al api.Alphabet, n int) api.Tree {
	sym := s.Below(len(al.Ranks))
	if al.Ranks[sym] >= n {
		return Tree(slices.Index(al.Ranks, 0))
	}
	t := Tree(sym)
	rest := n - 1
	for i := range al.Ranks[sym] {
		later := al.Ranks[sym] - 1 - i
		size := 1 + s.Below(rest-later)
		if later == 0 {
			size = rest
		}
		kid := RandomTree(s, al, size)
		t.Kids = append(t.Kids, kid)
		rest -= tree.Size(kid)
	}
	return t
}

// ShareTrees reports whether two lists of subtrees in the trees share memory, up
// to their capacities.
func ShareTrees(trees ...api.Tree) bool {
	return share(trees, func(x api.Tree) []api.Tree { return x.Kids })
}

// share reports whether two lists of parts in some things share memory, up to
// their capacities.
func share[T any](things []T, partsOf func(T) []T) bool {
	known := map[*T]bool{}
	shared := false
	var visit func(x T)
	visit = func(x T) {
		parts := partsOf(x)
		shared = AddNew(known, parts) || shared
		for _, part := range parts {
			visit(part)
		}
	}
	for _, x := range things {
		visit(x)
	}
	return shared
}

// AddNew adds the elements of a list, up to its capacity, to those that are
// known. It reports whether one of them was known before.
func AddNew[T any](known map[*T]bool, list []T) bool {
	list = list[:cap(list)]
	shared := false
	for i := range list {
		shared = shared || known[&list[i]]
		known[&list[i]] = true
	}
	return shared
}
