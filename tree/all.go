package tree

import (
	"boskage/api"
	"iter"
)

const (
	maxAllSize  = 12
	maxAllTrees = 4096
)

// All returns all trees over a with n nodes, in the order of trees.
func All(a api.Alphabet, n int) ([]api.Tree, api.Errno) {
	if !ValidAlphabet(a) {
		return nil, api.ErrArg
	}
	if n < 1 || n > maxAllSize {
		return nil, api.ErrRange
	}
	c := takeCensus(a)
	if c.lists[1][n] > maxAllTrees {
		return nil, api.ErrFull
	}
	var all []api.Tree
	for t := range c.trees(n) {
		all = append(all, clone(t))
	}
	return all, api.OK
}

// census contains the number of lists of k trees with n nodes together as
// lists[k][n]. Numbers above maxAllTrees are all kept as maxAllTrees + 1.
type census struct {
	ranks []int
	lists [api.MaxRank + 1][maxAllSize + 1]int
}

func takeCensus(a api.Alphabet) census {
	c := census{ranks: a.Ranks}
	c.lists[0][0] = 1
	for n := 1; n <= maxAllSize; n++ {
		trees := 0
		for _, rank := range a.Ranks {
			trees += c.lists[rank][n-1]
		}
		c.lists[1][n] = min(trees, maxAllTrees+1)
		for k := 2; k <= api.MaxRank; k++ {
			c.lists[k][n] = c.countLists(k, n)
		}
	}
	return c
}

// countLists returns lists[k][n], given the numbers for shorter lists and for
// fewer nodes.
func (c *census) countLists(k, n int) int {
	number := 0
	for first := 1; first <= n; first++ {
		number += c.lists[1][first] * c.lists[k-1][n-first]
	}
	return min(number, maxAllTrees+1)
}

// trees yields the trees with n nodes in the order of trees. They share
// subtrees.
func (c *census) trees(n int) iter.Seq[api.Tree] {
	return func(yield func(api.Tree) bool) {
		for sym, rank := range c.ranks {
			for kids := range c.forests(rank, n-1) {
				if !yield(api.Tree{Sym: sym, Kids: kids}) {
					return
				}
			}
		}
	}
}

// forests yields the lists of k trees with n nodes together, in the order of
// their first trees that differ. It asks the census before each choice, so
// that it never searches where there is no list.
func (c *census) forests(k, n int) iter.Seq[[]api.Tree] {
	return func(yield func([]api.Tree) bool) {
		if c.lists[k][n] == 0 {
			return
		}
		if k == 0 {
			yield(nil)
			return
		}
		for size := 1; size <= n; size++ {
			if c.lists[k-1][n-size] > 0 && !c.split(k, n, size, yield) {
				return
			}
		}
	}
}

// split yields the lists of forests whose first tree has the given size. It
// returns false if the receiver wants no more of them.
func (c *census) split(k, n, size int, yield func([]api.Tree) bool) bool {
	for first := range c.trees(size) {
		for rest := range c.forests(k-1, n-size) {
			if !yield(append([]api.Tree{first}, rest...)) {
				return false
			}
		}
	}
	return true
}
