package tree_test

import (
	"boskage/api"
	"boskage/tree"
	"slices"
	"testing"
)

// P1.1
func TestValidAlphabet(t *testing.T) {
	good := []api.Alphabet{
		{},
		{Ranks: []int{}},
		{Ranks: []int{0}},
		{Ranks: []int{3}},
		{Ranks: []int{3, 2, 1, 0}},
		{Ranks: make([]int, api.MaxSymbols)},
	}
	for _, a := range good {
		if !tree.ValidAlphabet(a) {
			t.Errorf("%v is valid", a)
		}
	}
	for _, a := range badAlphabets() {
		if tree.ValidAlphabet(a) {
			t.Errorf("%v is not valid", a)
		}
	}
}

// P1.1
func TestValid(t *testing.T) {
	for _, text := range []string{"a", "b", "g(a)", "f(a, b)", "h(a, b, g(a))", "f(f(a, a), h(a, a, a))"} {
		if x := read(text); !tree.Valid(small, x) {
			t.Errorf("%s is valid", text)
		}
	}
	if !tree.Valid(small, api.Tree{Sym: 1, Kids: []api.Tree{}}) {
		t.Error("an empty list of subtrees is valid")
	}
	if !tree.Valid(small, chain(api.MaxSize)) {
		t.Error("a tree of MaxSize nodes is valid")
	}
	if !tree.Valid(small, node(3, chain(150), chain(149))) || tree.Valid(small, node(3, chain(150), chain(150))) {
		t.Error("the nodes of all subtrees count")
	}
	for i, x := range badTrees() {
		if tree.Valid(small, x) {
			t.Errorf("bad tree %d is not valid", i)
		}
	}
}

// P1.1: no tree is valid over an alphabet that is not.
func TestValidNeedsAlphabet(t *testing.T) {
	for _, a := range badAlphabets() {
		for sym := range 2 {
			if tree.Valid(a, node(sym)) {
				t.Errorf("%v is not valid", a)
			}
		}
	}
	if tree.Valid(api.Alphabet{Ranks: []int{4, 0}}, node(0, node(1), node(1), node(1), node(1))) {
		t.Error("rank 4 is not valid")
	}
	if tree.Valid(api.Alphabet{}, node(0)) {
		t.Error("the empty alphabet has no tree")
	}
}

// P1.2
func TestSizeAndDepth(t *testing.T) {
	tests := []struct {
		x           api.Tree
		size, depth int
	}{
		{read("a"), 1, 1},
		{read("g(a)"), 2, 2},
		{read("f(a, b)"), 3, 2},
		{read("f(a, f(g(b), a))"), 6, 4},
		{read("f(f(g(b), a), a)"), 6, 4},
		{read("h(a, g(g(b)), g(a))"), 7, 4},
		{none, 1, 1},
		{node(-7, node(99), node(5, node(5))), 4, 3},
		{node(0, make([]api.Tree, 50000)...), 50001, 2},
		{chain(api.MaxSize + 1), api.MaxSize + 1, api.MaxSize + 1},
		{chain(1 << 16), 1 << 16, 1 << 16},
	}
	for i, test := range tests {
		if size := tree.Size(test.x); size != test.size {
			t.Errorf("%d: size %d, want %d", i, size, test.size)
		}
		if depth := tree.Depth(test.x); depth != test.depth {
			t.Errorf("%d: depth %d, want %d", i, depth, test.depth)
		}
	}
}

// P1.3: the order of trees, by examples in this order.
func TestCompareExamples(t *testing.T) {
	texts := []string{
		"a", "b", "g(a)", "g(b)", "g(g(a))", "f(a, a)", "f(a, b)", "f(b, a)", "f(b, b)",
		"g(g(g(a)))", "g(f(a, a))", "f(a, g(a))", "f(b, g(a))", "f(g(a), a)", "h(a, a, a)", "h(a, b, a)", "h(b, a, a)",
		"f(a, f(a, a))", "f(f(a, a), a)",
	}
	for i, x := range texts {
		for j, y := range texts {
			want := 0
			if i < j {
				want = -1
			} else if i > j {
				want = 1
			}
			if got := tree.Compare(read(x), read(y)); got != want {
				t.Errorf("%s and %s: got %d, want %d", x, y, got, want)
			}
		}
	}
}

// anyTrees are all trees of few nodes with any symbols and numbers of subtrees.
func anyTrees() []api.Tree {
	var list []api.Tree
	for n := 1; n <= 4; n++ {
		list = append(list, every(n, []int{-1, 0, 2}, func(sym, kids int) bool { return true })...)
	}
	return list
}

// P1.3, P1.9: Compare is the total order of the document, for trees over an
// alphabet and for any others.
func TestCompareIsTheOrder(t *testing.T) {
	for i, list := range [][]api.Tree{anyTrees(), slices.Concat(everyOver(small, 3), everyOver(small, 4), everyOver(small, 5))} {
		slices.SortFunc(list, order)
		for j, x := range list {
			for k, y := range list {
				want := 0
				if j < k {
					want = -1
				} else if j > k {
					want = 1
				}
				if got := tree.Compare(x, y); got != want {
					t.Fatalf("list %d: %v and %v: got %d, want %d", i, x, y, got, want)
				}
			}
		}
	}
}

// P1.3: of two lists of which one is a prefix, the shorter one comes first;
// but before that, the sizes decide.
func TestComparePrefix(t *testing.T) {
	short, long := node(4, node(7)), node(4, node(7), node(0))
	if tree.Compare(short, long) != -1 || tree.Compare(long, short) != 1 {
		t.Error("a prefix comes first")
	}
	if tree.Compare(node(4, node(0), node(0)), node(4, node(0, node(0)))) != -1 {
		t.Error("the first subtree that differs decides")
	}
	if tree.Compare(node(4), api.Tree{Sym: 4, Kids: []api.Tree{}}) != 0 {
		t.Error("an empty list equals nil")
	}
}

// P1.3: large trees are compared in reasonable time.
func TestCompareLarge(t *testing.T) {
	deep, wide := chain(1<<16), node(2, make([]api.Tree, 1<<16-1)...)
	if tree.Compare(deep, copyOf(deep)) != 0 {
		t.Error("equal trees")
	}
	if tree.Compare(wide, deep) != -1 || tree.Compare(deep, wide) != 1 {
		t.Error("the first subtree of the wide tree is smaller")
	}
	if tree.Compare(deep, chain(1<<16-1)) != 1 {
		t.Error("the smaller tree comes first")
	}
}
