package tree_test

import (
	"boskage/api"
	"boskage/tree"
	"slices"
	"testing"
)

// samePositions compares lists of positions, where an empty list equals nil.
func samePositions(a, b [][]int) bool {
	return slices.EqualFunc(a, b, func(p, q []int) bool { return slices.Equal(p, q) })
}

// P1.4
func TestPositions(t *testing.T) {
	tests := []struct {
		text string
		want [][]int
	}{
		{"a", [][]int{{}}},
		{"g(a)", [][]int{{}, {0}}},
		{"f(a, f(a, a))", [][]int{{}, {0}, {1}, {1, 0}, {1, 1}}},
		{"f(g(g(a)), b)", [][]int{{}, {0}, {0, 0}, {0, 0, 0}, {1}}},
		{"h(g(a), b, f(a, b))", [][]int{{}, {0}, {0, 0}, {1}, {2}, {2, 0}, {2, 1}}},
	}
	for _, test := range tests {
		got, e := tree.Positions(small, read(test.text))
		if e != api.OK || !samePositions(got, test.want) {
			t.Errorf("%s: got %v, error %d, want %v", test.text, got, e, test.want)
		}
	}
	got, e := tree.Positions(small, chain(api.MaxSize))
	if e != api.OK || len(got) != api.MaxSize || len(got[api.MaxSize-1]) != api.MaxSize-1 {
		t.Errorf("chain: %d positions, error %d", len(got), e)
	}
}

// P1.4: no two positions share memory.
func TestPositionsAreFresh(t *testing.T) {
	x := read("h(f(a, a), g(g(b)), f(b, h(a, a, a)))")
	want, _ := tree.Positions(small, x)
	got, _ := tree.Positions(small, x)
	for i := range got {
		long := append(got[i], -1)
		for j := range long {
			long[j] = -1
		}
		for j := i + 1; j < len(got); j++ {
			if !slices.Equal(got[j], want[j]) {
				t.Fatalf("positions %d and %d share memory", i, j)
			}
		}
	}
	if again, _ := tree.Positions(small, x); !samePositions(again, want) {
		t.Error("a result was changed through another one")
	}
}

// P1.4
func TestPositionsErrors(t *testing.T) {
	for i, x := range badTrees() {
		if got, e := tree.Positions(small, x); e != api.ErrArg || len(got) != 0 {
			t.Errorf("bad tree %d: %v, error %d", i, got, e)
		}
	}
	for _, a := range badAlphabets() {
		if got, e := tree.Positions(a, read("a")); e != api.ErrArg || len(got) != 0 {
			t.Errorf("%v: %v, error %d", a, got, e)
		}
	}
}

// missing are positions that f(g(a), b) does not have.
var missing = [][]int{{2}, {-1}, {1, 0}, {0, 1}, {0, 0, 0}, {0, -1}, {1 << 40}, {-1 << 40}, make([]int, 100000)}

// P1.4
func TestAt(t *testing.T) {
	tests := []struct {
		pos  []int
		want string
	}{
		{nil, "h(g(a), b, f(a, g(b)))"},
		{[]int{}, "h(g(a), b, f(a, g(b)))"},
		{[]int{0}, "g(a)"},
		{[]int{0, 0}, "a"},
		{[]int{1}, "b"},
		{[]int{2}, "f(a, g(b))"},
		{[]int{2, 1}, "g(b)"},
		{[]int{2, 1, 0}, "b"},
	}
	x := read("h(g(a), b, f(a, g(b)))")
	for _, test := range tests {
		got, e := tree.At(small, x, test.pos)
		checkTree(t, "At", got, e, read(test.want), api.OK)
		checkFresh(t, "At", x, got)
	}
	for _, pos := range missing {
		got, e := tree.At(small, read("f(g(a), b)"), pos)
		checkTree(t, "At of a missing position", got, e, none, api.ErrNone)
	}
}

// P1.4: ErrArg comes before ErrNone.
func TestAtErrors(t *testing.T) {
	for _, pos := range [][]int{nil, {0}, {7}} {
		for _, x := range badTrees() {
			got, e := tree.At(small, x, pos)
			checkTree(t, "At of a bad tree", got, e, none, api.ErrArg)
		}
		for _, a := range badAlphabets() {
			got, e := tree.At(a, read("a"), pos)
			checkTree(t, "At over a bad alphabet", got, e, none, api.ErrArg)
		}
	}
}

// P1.4
func TestPut(t *testing.T) {
	tests := []struct {
		text    string
		pos     []int
		x, want string
	}{
		{"a", nil, "f(a, b)", "f(a, b)"},
		{"f(a, b)", []int{}, "b", "b"},
		{"f(a, b)", []int{0}, "g(b)", "f(g(b), b)"},
		{"f(a, b)", []int{1}, "g(b)", "f(a, g(b))"},
		{"h(g(a), b, f(a, g(b)))", []int{2, 1, 0}, "f(a, a)", "h(g(a), b, f(a, g(f(a, a))))"},
		{"h(g(a), b, f(a, g(b)))", []int{2}, "a", "h(g(a), b, a)"},
	}
	for _, test := range tests {
		y, x := read(test.text), read(test.x)
		got, e := tree.Put(small, y, test.pos, x)
		checkTree(t, "Put in "+test.text, got, e, read(test.want), api.OK)
		checkFresh(t, "Put in "+test.text, y, x, got)
		checkTree(t, "the argument of Put", y, api.OK, read(test.text), api.OK)
		checkTree(t, "the argument of Put", x, api.OK, read(test.x), api.OK)
	}
	for _, pos := range missing {
		got, e := tree.Put(small, read("f(g(a), b)"), pos, read("a"))
		checkTree(t, "Put at a missing position", got, e, none, api.ErrNone)
	}
}

// P1.4: the limit is that of the result.
func TestPutLimit(t *testing.T) {
	half := node(3, chain(100), chain(50))
	got, e := tree.Put(small, half, []int{1}, chain(199))
	checkTree(t, "MaxSize nodes", got, e, node(3, chain(100), chain(199)), api.OK)
	got, e = tree.Put(small, half, []int{1}, chain(200))
	checkTree(t, "MaxSize + 1 nodes", got, e, none, api.ErrFull)
	got, e = tree.Put(small, chain(api.MaxSize), nil, chain(api.MaxSize))
	checkTree(t, "the whole tree", got, e, chain(api.MaxSize), api.OK)
	got, e = tree.Put(small, chain(api.MaxSize), []int{0}, chain(api.MaxSize))
	checkTree(t, "below the root", got, e, none, api.ErrFull)
	got, e = tree.Put(small, chain(api.MaxSize), []int{0}, read("a"))
	checkTree(t, "a smaller tree", got, e, read("g(a)"), api.OK)
}

// P1.4: ErrArg comes before ErrNone, and ErrNone before ErrFull.
func TestPutErrors(t *testing.T) {
	for _, pos := range [][]int{nil, {0}, {7}} {
		for _, bad := range badTrees() {
			got, e := tree.Put(small, bad, pos, read("a"))
			checkTree(t, "Put in a bad tree", got, e, none, api.ErrArg)
			got, e = tree.Put(small, read("g(a)"), pos, bad)
			checkTree(t, "Put of a bad tree", got, e, none, api.ErrArg)
		}
		for _, a := range badAlphabets() {
			got, e := tree.Put(a, read("a"), pos, read("a"))
			checkTree(t, "Put over a bad alphabet", got, e, none, api.ErrArg)
		}
	}
	got, e := tree.Put(small, chain(api.MaxSize), []int{1}, chain(api.MaxSize))
	checkTree(t, "no such position", got, e, none, api.ErrNone)
}

// P1.8
func TestReplacement(t *testing.T) {
	trees := slices.Concat(everyOver(small, 1), everyOver(small, 2), everyOver(small, 4), everyOver(small, 5)[:40])
	for _, y := range trees {
		positions, e := tree.Positions(small, y)
		if e != api.OK || len(positions) != nodes(y) {
			t.Fatalf("%s: %v, error %d", show(y), positions, e)
		}
		for _, pos := range positions {
			own, e := tree.At(small, y, pos)
			if e != api.OK {
				t.Fatalf("%s at %v: error %d", show(y), pos, e)
			}
			back, e := tree.Put(small, y, pos, own)
			checkTree(t, "Put of the subtree at its position", back, e, y, api.OK)
			checkFresh(t, "Put of the subtree at its position", y, own, back)
			for _, text := range []string{"a", "f(b, g(a))"} {
				put, e := tree.Put(small, y, pos, read(text))
				if e != api.OK || nodes(put) != nodes(y)-nodes(own)+nodes(read(text)) {
					t.Errorf("%s at %v: %v, error %d", show(y), pos, put, e)
				}
				at, e := tree.At(small, put, pos)
				checkTree(t, "At of Put", at, e, read(text), api.OK)
			}
		}
	}
}
