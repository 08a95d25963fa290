package hedge_test

import (
	"boskage/api"
	"cmp"
	"slices"
	"strings"
	"testing"
)

// ab are the names of two labels.
var ab = []string{"a", "b"}

// node makes an unranked tree.
func node(label int, kids ...api.Node) api.Node {
	return api.Node{Label: label, Kids: kids}
}

// forest makes a hedge.
func forest(trees ...api.Node) []api.Node {
	return trees
}

// chain makes an unranked tree of n nodes, one below the other.
func chain(n int) api.Node {
	x := node(0)
	for range n - 1 {
		x = node(0, x)
	}
	return x
}

// row makes a hedge of n trees with one node each.
func row(n int) []api.Node {
	return make([]api.Node, n)
}

// read reads the printed form of a hedge with the labels a to h, where blanks
// matter as little as possible. It does not use hedge.Parse.
func read(text string) []api.Node {
	h, rest := readSome(text)
	if rest != "" {
		panic(text)
	}
	return h
}

func readSome(text string) ([]api.Node, string) {
	var h []api.Node
	for text != "" && text[0] != ')' {
		if text[0] == ' ' {
			text = text[1:]
			continue
		}
		x := node(int(text[0] - 'a'))
		text = text[1:]
		if text != "" && text[0] == '(' {
			x.Kids, text = readSome(text[1:])
			text = text[1:]
		}
		h = append(h, x)
	}
	return h, text
}

// show is the printed form, independent of hedge.Print.
func show(h []api.Node) string {
	var parts []string
	for _, x := range h {
		s := string(rune('a' + x.Label))
		if len(x.Kids) > 0 {
			s += "(" + show(x.Kids) + ")"
		}
		parts = append(parts, s)
	}
	return strings.Join(parts, " ")
}

// same reports whether two hedges are identical, where an empty list equals nil.
func same(a, b []api.Node) bool {
	return slices.EqualFunc(a, b, func(x, y api.Node) bool {
		return x.Label == y.Label && same(x.Kids, y.Kids)
	})
}

// sameTree reports whether two trees are identical, where an empty list equals nil.
func sameTree(a, b api.Tree) bool {
	return a.Sym == b.Sym && slices.EqualFunc(a.Kids, b.Kids, sameTree)
}

// size counts nodes.
func size(h []api.Node) int {
	n := len(h)
	for _, x := range h {
		n += size(x.Kids)
	}
	return n
}

// order is the order of unranked trees, word for word.
func order(a, b api.Node) int {
	if c := cmp.Compare(size(a.Kids), size(b.Kids)); c != 0 {
		return c
	}
	if c := cmp.Compare(a.Label, b.Label); c != 0 {
		return c
	}
	return slices.CompareFunc(a.Kids, b.Kids, order)
}

// every lists all hedges with n nodes and the given labels.
func every(n int, labels ...int) [][]api.Node {
	if n == 0 {
		return [][]api.Node{nil}
	}
	var list [][]api.Node
	for below := range n {
		for _, kids := range every(below, labels...) {
			for _, rest := range every(n-1-below, labels...) {
				for _, label := range labels {
					first := copyOf(forest(node(label, kids...)))
					list = append(list, append(first, copyOf(rest)...))
				}
			}
		}
	}
	return list
}

// upto lists all hedges with at most n nodes and the labels 0 and 1.
func upto(n int) [][]api.Node {
	var list [][]api.Node
	for size := 0; size <= n; size++ {
		list = append(list, every(size, 0, 1)...)
	}
	return list
}

// copyOf copies a hedge with all its memory.
func copyOf(h []api.Node) []api.Node {
	c := slices.Clone(h)
	for i := range c {
		c[i].Kids = copyOf(c[i].Kids)
	}
	return c
}

// shared collects the memory of the lists of h and reports whether one of
// them was collected before.
func shared(h []api.Node, seen map[*api.Node]bool) bool {
	found := false
	if len(h) > 0 {
		found = seen[&h[0]]
		seen[&h[0]] = true
	}
	for _, x := range h {
		found = shared(x.Kids, seen) || found
	}
	return found
}

// sharedTree does the same for the lists of a tree.
func sharedTree(t api.Tree, seen map[*api.Tree]bool) bool {
	found := false
	if len(t.Kids) > 0 {
		found = seen[&t.Kids[0]]
		seen[&t.Kids[0]] = true
	}
	for _, kid := range t.Kids {
		found = sharedTree(kid, seen) || found
	}
	return found
}

// checkHedge checks a result and its error.
func checkHedge(t *testing.T, what string, got []api.Node, e api.Errno, want []api.Node, wantE api.Errno) {
	t.Helper()
	if e != wantE || !same(got, want) {
		t.Errorf("%s: got %s, error %d, want %s, error %d", what, show(got), e, show(want), wantE)
	}
}

// checkTree checks a result and its error.
func checkTree(t *testing.T, what string, got api.Tree, e api.Errno, want api.Tree, wantE api.Errno) {
	t.Helper()
	if e != wantE || !sameTree(got, want) {
		t.Errorf("%s: got %v, error %d, want %v, error %d", what, got, e, want, wantE)
	}
}

// badLabels are numbers of labels that are out of range.
var badLabels = []int{0, -1, api.MaxLabels + 1, 1 << 40, -1 << 63, 1<<63 - 1}

// badHedges are not valid over two labels.
func badHedges() [][]api.Node {
	return [][]api.Node{
		forest(node(-1)),
		forest(node(2)),
		forest(node(1 << 40)),
		forest(node(0), node(2)),
		forest(node(0, node(1), node(-1))),
		forest(node(0, node(1, node(0, node(2))))),
		forest(chain(api.MaxSize + 1)),
		forest(chain(1 << 16)),
		forest(chain(150), chain(151)),
		forest(node(0, row(api.MaxSize)...)),
		row(api.MaxSize + 1),
		row(1 << 16),
	}
}
