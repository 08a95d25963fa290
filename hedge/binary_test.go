package hedge_test

import (
	"boskage/api"
	"boskage/hedge"
	"boskage/tree"
	"slices"
	"testing"
)

// leaf is the encoding of the empty hedge over two labels.
var leaf = api.Tree{Sym: 2}

// pair is an encoding over two labels.
func pair(label int, kids, rest api.Tree) api.Tree {
	return api.Tree{Sym: label, Kids: []api.Tree{kids, rest}}
}

// encoding is the encoding over n labels, word for word.
func encoding(n int, h []api.Node) api.Tree {
	if len(h) == 0 {
		return api.Tree{Sym: n}
	}
	return pair(h[0].Label, encoding(n, h[0].Kids), encoding(n, h[1:]))
}

// P2.2
func TestBinary(t *testing.T) {
	want := []int{2, 2, 2, 2, 2, 2, 2, 2}
	for n := 1; n <= api.MaxLabels; n++ {
		al, e := hedge.Binary(n)
		if e != api.OK || !slices.Equal(al.Ranks, append(slices.Clone(want[:n]), 0)) {
			t.Errorf("%d labels: %v, error %d", n, al, e)
		}
		al.Ranks[0] = 7
		if again, _ := hedge.Binary(n); again.Ranks[0] != 2 {
			t.Error("results share memory")
		}
	}
	for _, n := range badLabels {
		if al, e := hedge.Binary(n); e != api.ErrRange || len(al.Ranks) != 0 {
			t.Errorf("%d labels: %v, error %d", n, al, e)
		}
	}
}

// P2.3: the example of the document, and small hedges.
func TestEncode(t *testing.T) {
	got, e := hedge.Encode(2, read("a(b b) b"))
	checkTree(t, "a(b b) b", got, e, pair(0, pair(1, leaf, pair(1, leaf, leaf)), pair(1, leaf, leaf)), api.OK)
	got, e = hedge.Encode(2, nil)
	checkTree(t, "no tree", got, e, leaf, api.OK)
	got, e = hedge.Encode(2, read("a b(a)"))
	checkTree(t, "a b(a)", got, e, pair(0, leaf, pair(1, pair(0, leaf, leaf), leaf)), api.OK)
	for _, h := range upto(5) {
		for _, n := range []int{2, 3, api.MaxLabels} {
			got, e := hedge.Encode(n, h)
			checkTree(t, show(h), got, e, encoding(n, h), api.OK)
			if sharedTree(got, map[*api.Tree]bool{}) {
				t.Errorf("%s: memory is shared", show(h))
			}
		}
	}
}

// P2.3: the limit is that of the encoding, which has 2 k + 1 nodes for k nodes.
func TestEncodeLimit(t *testing.T) {
	for _, make := range []func(n int) []api.Node{row, func(n int) []api.Node { return forest(chain(n)) }} {
		got, e := hedge.Encode(1, make(149))
		checkTree(t, "149 nodes", got, e, encoding(1, make(149)), api.OK)
		for _, k := range []int{150, 151, api.MaxSize} {
			got, e := hedge.Encode(1, make(k))
			checkTree(t, "many nodes", got, e, api.Tree{}, api.ErrFull)
		}
		got, e = hedge.Encode(1, make(api.MaxSize+1))
		checkTree(t, "no valid hedge", got, e, api.Tree{}, api.ErrArg)
	}
}

// P2.3
func TestEncodeErrors(t *testing.T) {
	for _, h := range badHedges() {
		got, e := hedge.Encode(2, h)
		checkTree(t, "bad hedge", got, e, api.Tree{}, api.ErrArg)
	}
	for _, n := range badLabels {
		for _, h := range [][]api.Node{nil, read("a")} {
			got, e := hedge.Encode(n, h)
			checkTree(t, "bad number of labels", got, e, api.Tree{}, api.ErrArg)
		}
	}
}

// P2.3
func TestDecode(t *testing.T) {
	got, e := hedge.Decode(2, pair(0, pair(1, leaf, pair(1, leaf, leaf)), pair(1, leaf, leaf)))
	checkHedge(t, "the example", got, e, read("a(b b) b"), api.OK)
	got, e = hedge.Decode(2, leaf)
	checkHedge(t, "the leaf", got, e, nil, api.OK)
	for _, h := range upto(5) {
		got, e := hedge.Decode(2, encoding(2, h))
		checkHedge(t, show(h), got, e, h, api.OK)
		if shared(got, map[*api.Node]bool{}) {
			t.Errorf("%s: memory is shared", show(h))
		}
	}
	got, e = hedge.Decode(1, encoding(1, row(149)))
	checkHedge(t, "row", got, e, row(149), api.OK)
	got, e = hedge.Decode(api.MaxLabels, encoding(api.MaxLabels, forest(chain(149))))
	checkHedge(t, "chain", got, e, forest(chain(149)), api.OK)
}

// P2.3: ErrRange comes before ErrArg.
func TestDecodeErrors(t *testing.T) {
	bad := []api.Tree{
		{Sym: 3},
		{Sym: -1},
		{Sym: 0},
		{Sym: 0, Kids: []api.Tree{leaf}},
		{Sym: 0, Kids: []api.Tree{leaf, leaf, leaf}},
		{Sym: 2, Kids: []api.Tree{leaf, leaf}},
		pair(2, leaf, leaf),
		pair(3, leaf, leaf),
		pair(1, pair(0, leaf, api.Tree{Sym: 1}), leaf),
		pair(1, leaf, pair(-1, leaf, leaf)),
		encoding(2, row(150)),
		encoding(2, forest(chain(1<<15))),
	}
	for i, x := range bad {
		if got, e := hedge.Decode(2, x); e != api.ErrArg || len(got) != 0 {
			t.Errorf("bad tree %d: %v, error %d", i, got, e)
		}
	}
	for _, n := range badLabels {
		for _, x := range append(bad, leaf) {
			if got, e := hedge.Decode(n, x); e != api.ErrRange || len(got) != 0 {
				t.Errorf("%d labels: %v, error %d", n, got, e)
			}
		}
	}
}

// P2.7
func TestBijection(t *testing.T) {
	for _, h := range append(upto(5), row(149), forest(chain(149)), read("h(g f e) d(c(b(a)))")) {
		code, e := hedge.Encode(api.MaxLabels, h)
		if e != api.OK {
			t.Fatalf("%s: error %d", show(h), e)
		}
		back, e := hedge.Decode(api.MaxLabels, code)
		checkHedge(t, "Decode of Encode", back, e, h, api.OK)
	}
	al, _ := hedge.Binary(3)
	for n := 1; n <= 7; n++ {
		list, e := tree.All(al, n)
		if e != api.OK || n%2 == 1 && len(list) == 0 {
			t.Fatalf("%d trees, error %d", len(list), e)
		}
		for _, x := range list {
			h, e := hedge.Decode(3, x)
			if e != api.OK || 2*size(h)+1 != n {
				t.Fatalf("%v: %s, error %d", x, show(h), e)
			}
			back, e := hedge.Encode(3, h)
			checkTree(t, "Encode of Decode", back, e, x, api.OK)
		}
	}
}
