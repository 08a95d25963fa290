package hedge_test

import (
	"boskage/api"
	"boskage/hedge"
	"slices"
	"testing"
)

// P2.1
func TestValid(t *testing.T) {
	for _, h := range upto(4) {
		if !hedge.ValidHedge(2, h) {
			t.Errorf("%s is valid", show(h))
		}
		for _, x := range h {
			if !hedge.Valid(2, x) {
				t.Errorf("%s is valid", show(forest(x)))
			}
		}
	}
	for i, h := range badHedges() {
		if hedge.ValidHedge(2, h) {
			t.Errorf("bad hedge %d is not valid", i)
		}
		if hedge.Valid(2, node(0, h...)) || len(h) == 1 && hedge.Valid(2, h[0]) {
			t.Errorf("bad tree %d is not valid", i)
		}
	}
	for n := 1; n <= api.MaxLabels; n++ {
		if !hedge.Valid(n, node(n-1)) || hedge.Valid(n, node(n)) || !hedge.ValidHedge(n, forest(node(n-1))) || hedge.ValidHedge(n, forest(node(0), node(n))) {
			t.Errorf("%d labels", n)
		}
	}
}

// P2.1: the limit is that of all nodes together.
func TestValidLimit(t *testing.T) {
	if !hedge.Valid(1, chain(api.MaxSize)) || hedge.Valid(1, chain(api.MaxSize+1)) {
		t.Error("chain")
	}
	if !hedge.Valid(1, node(0, row(api.MaxSize-1)...)) || hedge.Valid(1, node(0, row(api.MaxSize)...)) {
		t.Error("tree with many children")
	}
	if !hedge.ValidHedge(1, row(api.MaxSize)) || hedge.ValidHedge(1, row(api.MaxSize+1)) {
		t.Error("row")
	}
	if !hedge.ValidHedge(1, forest(chain(150), chain(150))) || hedge.ValidHedge(1, forest(chain(150), chain(151))) {
		t.Error("two chains")
	}
}

// P2.1: nothing is valid over a number of labels that is out of range.
func TestValidNumberOfLabels(t *testing.T) {
	for _, n := range badLabels {
		if hedge.Valid(n, node(0)) || hedge.ValidHedge(n, nil) || hedge.ValidHedge(n, forest(node(0))) {
			t.Errorf("%d labels are not valid", n)
		}
	}
	for n := 1; n <= api.MaxLabels; n++ {
		if !hedge.ValidHedge(n, nil) || !hedge.ValidHedge(n, []api.Node{}) || !hedge.Valid(n, node(0)) {
			t.Errorf("%d labels are valid", n)
		}
	}
}

// P2.4
func TestSize(t *testing.T) {
	tests := []struct {
		h    []api.Node
		want int
	}{
		{nil, 0},
		{forest(), 0},
		{read("a"), 1},
		{read("a(b b) b"), 4},
		{read("a(b(a) b) b(a(b(a)))"), 8},
		{forest(node(-5), node(99, node(7))), 3},
		{row(100000), 100000},
		{forest(chain(1<<16), node(0)), 1<<16 + 1},
	}
	for i, test := range tests {
		if got := hedge.Size(test.h); got != test.want {
			t.Errorf("%d: got %d, want %d", i, got, test.want)
		}
	}
}

// trees lists all unranked trees with at most n nodes and the given labels.
func trees(n int, labels ...int) []api.Node {
	var list []api.Node
	for below := range n {
		for _, kids := range every(below, labels...) {
			for _, label := range labels {
				list = append(list, node(label, copyOf(kids)...))
			}
		}
	}
	return list
}

// P2.4: Compare is the order of the document for any trees.
func TestCompare(t *testing.T) {
	for i, list := range [][]api.Node{trees(5, 0, 1), trees(4, -1, 1, 50)} {
		slices.SortFunc(list, order)
		for j, x := range list {
			for k, y := range list {
				want := 0
				if j < k {
					want = -1
				} else if j > k {
					want = 1
				}
				if got := hedge.Compare(x, y); got != want {
					t.Fatalf("list %d: %v and %v: got %d, want %d", i, x, y, got, want)
				}
			}
		}
	}
	if hedge.Compare(node(1), api.Node{Label: 1, Kids: []api.Node{}}) != 0 {
		t.Error("an empty list equals nil")
	}
}

// P2.4: examples in increasing order.
func TestCompareExamples(t *testing.T) {
	texts := []string{
		"a", "b", "a(a)", "a(b)", "b(a)", "a(a a)", "a(a b)", "a(b a)", "a(a(a))", "a(b(a))", "b(a a)", "b(a(a))",
		"a(a a a)", "a(a a(a))", "a(b a(a))", "a(a(a) a)", "a(a(a) b)", "a(a(b) a)", "a(a(a a))", "a(a(a(a)))", "b(a a a)",
	}
	for i, x := range texts {
		for j, y := range texts {
			want := 0
			if i < j {
				want = -1
			} else if i > j {
				want = 1
			}
			if got := hedge.Compare(read(x)[0], read(y)[0]); got != want {
				t.Errorf("%s and %s: got %d, want %d", x, y, got, want)
			}
		}
	}
}

// P2.4: large trees are compared in reasonable time.
func TestCompareLarge(t *testing.T) {
	deep, wide := chain(1<<16), node(0, row(1<<16-1)...)
	if hedge.Compare(deep, chain(1<<16)) != 0 || hedge.Compare(wide, deep) != -1 || hedge.Compare(deep, wide) != 1 {
		t.Error("deep and wide")
	}
	if hedge.Compare(deep, chain(1<<16-1)) != 1 {
		t.Error("the smaller tree comes first")
	}
}

// P2.5
func TestNodes(t *testing.T) {
	tests := []struct {
		text string
		want []hedge.Info
	}{
		{"a", []hedge.Info{{0, -1, 0, 0}}},
		{"b(a)", []hedge.Info{{1, -1, 0, 1}, {0, 0, 0, 1}}},
		{"a(b(a) b)", []hedge.Info{{0, -1, 0, 3}, {1, 0, 0, 2}, {0, 1, 0, 2}, {1, 0, 1, 3}}},
		{"b(a a(b(a) a) b)", []hedge.Info{{1, -1, 0, 6}, {0, 0, 0, 1}, {0, 0, 1, 5}, {1, 2, 0, 4}, {0, 3, 0, 4}, {0, 2, 1, 5}, {1, 0, 2, 6}}},
	}
	for _, test := range tests {
		got, e := hedge.Nodes(2, read(test.text)[0])
		if e != api.OK || !slices.Equal(got, test.want) {
			t.Errorf("%s: got %v, error %d, want %v", test.text, got, e, test.want)
		}
	}
	got, e := hedge.Nodes(1, chain(api.MaxSize))
	if e != api.OK || len(got) != api.MaxSize || got[200] != (hedge.Info{Parent: 199, Last: api.MaxSize - 1}) {
		t.Errorf("chain: %d nodes, error %d", len(got), e)
	}
	got, e = hedge.Nodes(1, node(0, row(api.MaxSize-1)...))
	if e != api.OK || len(got) != api.MaxSize || got[200] != (hedge.Info{Index: 199, Last: 200}) {
		t.Errorf("row: %d nodes, error %d", len(got), e)
	}
}

// P2.5
func TestNodesErrors(t *testing.T) {
	for i, h := range badHedges() {
		if got, e := hedge.Nodes(2, node(0, h...)); e != api.ErrArg || len(got) != 0 {
			t.Errorf("bad tree %d: %v, error %d", i, got, e)
		}
	}
	for _, n := range badLabels {
		if got, e := hedge.Nodes(n, node(0)); e != api.ErrArg || len(got) != 0 {
			t.Errorf("%d labels: %v, error %d", n, got, e)
		}
	}
}

// preorder lists the nodes of a hedge in document order, word for word.
func preorder(h []api.Node) []api.Node {
	var list []api.Node
	for _, x := range h {
		list = append(list, x)
		list = append(list, preorder(x.Kids)...)
	}
	return list
}

// P2.9, P2.5: the nodes up to Last are the node and its descendants, and each
// node is the child of its parent with its index.
func TestNodesAreDescendants(t *testing.T) {
	for _, x := range trees(5, 0, 1) {
		infos, e := hedge.Nodes(2, x)
		list := preorder(forest(x))
		if e != api.OK || len(infos) != len(list) {
			t.Fatalf("%s: %v, error %d", show(forest(x)), infos, e)
		}
		for i, info := range infos {
			if info.Label != list[i].Label || info.Last != i+size(list[i].Kids) {
				t.Errorf("%s, node %d: %v", show(forest(x)), i, info)
			}
			for j := range infos {
				if (i <= j && j <= info.Last) != descends(infos, j, i) {
					t.Errorf("%s: nodes %d and %d", show(forest(x)), i, j)
				}
			}
			if i == 0 {
				if info.Parent != -1 || info.Index != 0 {
					t.Errorf("%s: root %v", show(forest(x)), info)
				}
				continue
			}
			kids := list[info.Parent].Kids
			if info.Index >= len(kids) || !same(forest(kids[info.Index]), forest(list[i])) {
				t.Errorf("%s, node %d: %v", show(forest(x)), i, info)
			}
		}
	}
}

// descends reports whether v is w or one of its descendants, where each parent
// comes before its children.
func descends(infos []hedge.Info, v, w int) bool {
	for v > w && infos[v].Parent < v {
		v = infos[v].Parent
	}
	return v == w
}
