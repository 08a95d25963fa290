package tree_test

import (
	"boskage/api"
	"cmp"
	"slices"
	"strings"
	"testing"
)

// small has a, b (rank 0), g (rank 1), f (rank 2) and h (rank 3).
var small = api.Alphabet{Ranks: []int{0, 0, 1, 2, 3}}

var smallNames = []string{"a", "b", "g", "f", "h"}

// node makes a tree.
func node(sym int, kids ...api.Tree) api.Tree {
	return api.Tree{Sym: sym, Kids: kids}
}

// chain makes a tree of n nodes: symbol 2 above symbol 0.
func chain(n int) api.Tree {
	t := node(0)
	for range n - 1 {
		t = node(2, t)
	}
	return t
}

// read reads a tree over small. It does not use tree.Parse.
func read(text string) api.Tree {
	t, rest := readSome(strings.ReplaceAll(text, " ", ""))
	if rest != "" {
		panic(text)
	}
	return t
}

func readSome(text string) (api.Tree, string) {
	t := api.Tree{Sym: slices.Index(smallNames, text[:1])}
	text = text[1:]
	for i := range small.Ranks[t.Sym] {
		if text[0] != "(,,"[i] {
			panic(text)
		}
		var kid api.Tree
		kid, text = readSome(text[1:])
		t.Kids = append(t.Kids, kid)
	}
	if len(t.Kids) > 0 {
		text = text[1:]
	}
	return t, text
}

// same reports whether two trees are identical, where an empty list equals nil.
func same(a, b api.Tree) bool {
	return a.Sym == b.Sym && slices.EqualFunc(a.Kids, b.Kids, same)
}

func sameLists(a, b []api.Tree) bool {
	return slices.EqualFunc(a, b, same)
}

// copyOf copies a tree with all its memory.
func copyOf(t api.Tree) api.Tree {
	c := api.Tree{Sym: t.Sym}
	for _, kid := range t.Kids {
		c.Kids = append(c.Kids, copyOf(kid))
	}
	return c
}

// nodes counts nodes.
func nodes(t api.Tree) int {
	n := 1
	for _, kid := range t.Kids {
		n += nodes(kid)
	}
	return n
}

// order is the order of trees, word for word.
func order(a, b api.Tree) int {
	if c := cmp.Compare(nodes(a), nodes(b)); c != 0 {
		return c
	}
	if c := cmp.Compare(a.Sym, b.Sym); c != 0 {
		return c
	}
	return slices.CompareFunc(a.Kids, b.Kids, order)
}

// every lists all trees with n nodes whose nodes satisfy fits, which is asked
// for a symbol and a number of subtrees. The list has no particular order.
func every(n int, symbols []int, fits func(sym, kids int) bool) []api.Tree {
	var list []api.Tree
	for k, forests := range everyForest(n-1, symbols, fits) {
		for _, sym := range symbols {
			if !fits(sym, k) {
				continue
			}
			for _, kids := range forests {
				list = append(list, copyOf(node(sym, kids...)))
			}
		}
	}
	return list
}

// everyForest lists the lists of k trees with n nodes together for each k.
func everyForest(n int, symbols []int, fits func(sym, kids int) bool) [][][]api.Tree {
	lists := make([][][]api.Tree, n+1)
	if n == 0 {
		lists[0] = [][]api.Tree{nil}
		return lists
	}
	for size := 1; size <= n; size++ {
		firsts := every(size, symbols, fits)
		for k, rests := range everyForest(n-size, symbols, fits) {
			for _, first := range firsts {
				for _, rest := range rests {
					lists[k+1] = append(lists[k+1], append([]api.Tree{first}, rest...))
				}
			}
		}
	}
	return lists
}

// everyOver lists all trees over a with n nodes, in the order of trees.
func everyOver(a api.Alphabet, n int) []api.Tree {
	symbols := make([]int, len(a.Ranks))
	for i := range symbols {
		symbols[i] = i
	}
	list := every(n, symbols, func(sym, kids int) bool { return a.Ranks[sym] == kids })
	slices.SortFunc(list, order)
	return list
}

// lists collects the memory of the lists of t: their first elements. It
// reports whether one of them was collected before.
func lists(t api.Tree, seen map[*api.Tree]bool) bool {
	shared := false
	if len(t.Kids) > 0 {
		shared = seen[&t.Kids[0]]
		seen[&t.Kids[0]] = true
	}
	for _, kid := range t.Kids {
		shared = lists(kid, seen) || shared
	}
	return shared
}

// checkFresh checks that no two of the trees, and no two lists of one of them,
// share memory.
func checkFresh(t *testing.T, what string, trees ...api.Tree) {
	t.Helper()
	seen := map[*api.Tree]bool{}
	for _, x := range trees {
		if lists(x, seen) {
			t.Errorf("%s: memory is shared", what)
			return
		}
	}
}

// checkTree checks a result and its error.
func checkTree(t *testing.T, what string, got api.Tree, e api.Errno, want api.Tree, wantE api.Errno) {
	t.Helper()
	if e != wantE || !same(got, want) {
		t.Errorf("%s: got %v, error %d, want %v, error %d", what, got, e, want, wantE)
	}
}

// show is the printed form, independent of tree.Print.
func show(t api.Tree) string {
	s := smallNames[t.Sym]
	if len(t.Kids) == 0 {
		return s
	}
	var kids []string
	for _, kid := range t.Kids {
		kids = append(kids, show(kid))
	}
	return s + "(" + strings.Join(kids, ", ") + ")"
}

// none is the zero tree.
var none api.Tree

// badAlphabets are not valid.
func badAlphabets() []api.Alphabet {
	return []api.Alphabet{
		{Ranks: []int{-1}},
		{Ranks: []int{0, 4}},
		{Ranks: []int{0, 1 << 40}},
		{Ranks: make([]int, api.MaxSymbols+1)},
		{Ranks: make([]int, 1000)},
	}
}

// badTrees are not valid over small.
func badTrees() []api.Tree {
	wide := node(3, make([]api.Tree, 100000)...)
	return []api.Tree{
		node(-1),
		node(5),
		node(1 << 40),
		node(0, node(0)),
		node(2),
		node(2, node(0), node(0)),
		node(3, node(0), node(5)),
		node(3, node(-1), node(0)),
		node(3, node(0), node(3, node(0))),
		node(4, node(0), node(0), node(2)),
		chain(api.MaxSize + 1),
		chain(1 << 16),
		wide,
	}
}
