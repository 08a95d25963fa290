package tree_test

import (
	"boskage/api"
	"boskage/tree"
	"slices"
	"testing"
)

// P1.5: the trees and their order, against a search that tries everything.
func TestAll(t *testing.T) {
	alphabets := []api.Alphabet{
		{},
		{Ranks: []int{0}},
		{Ranks: []int{1}},
		{Ranks: []int{3, 2, 1}},
		{Ranks: []int{0, 1}},
		{Ranks: []int{0, 2}},
		{Ranks: []int{2, 0}},
		{Ranks: []int{3, 0}},
		{Ranks: []int{0, 3, 0}},
		{Ranks: []int{3, 1, 0, 2, 0}},
		small,
	}
	for _, a := range alphabets {
		for n := 1; n <= 6; n++ {
			want := everyOver(a, n)
			got, e := tree.All(a, n)
			if e != api.OK || !sameLists(got, want) {
				t.Errorf("%v, %d nodes: %d trees, error %d, want %d", a, n, len(got), e, len(want))
			}
			checkFresh(t, "All", got...)
		}
	}
}

// P1.5: numbers of trees up to 12 nodes, and none where there is none.
func TestAllNumbers(t *testing.T) {
	tests := []struct {
		ranks []int
		want  [13]int
	}{
		{[]int{0, 2}, [13]int{0, 1, 0, 1, 0, 2, 0, 5, 0, 14, 0, 42, 0}},
		{[]int{0, 3}, [13]int{0, 1, 0, 0, 1, 0, 0, 3, 0, 0, 12, 0, 0}},
		{[]int{0, 1}, [13]int{0, 1, 1, 1, 1, 1, 1, 1, 1, 1, 1, 1, 1}},
		{[]int{0, 1, 2}, [13]int{0, 1, 1, 2, 4, 9, 21, 51, 127, 323, 835, 2188, -1}},
		{[]int{0, 0, 1, 1}, [13]int{0, 2, 4, 8, 16, 32, 64, 128, 256, 512, 1024, 2048, 4096}},
		{[]int{0, 0, 0, 1, 1}, [13]int{0, 3, 6, 12, 24, 48, 96, 192, 384, 768, 1536, 3072, -1}},
		{[]int{0, 0, 0, 2, 2, 2, 2, 2}, [13]int{0, 3, 0, 45, 0, 1350, 0, -1, 0, -1, 0, -1, 0}},
		{[]int{1, 2, 3}, [13]int{}},
		{nil, [13]int{}},
	}
	for _, test := range tests {
		for n := 1; n <= 12; n++ {
			got, e := tree.All(api.Alphabet{Ranks: test.ranks}, n)
			if test.want[n] < 0 {
				if e != api.ErrFull || len(got) != 0 {
					t.Errorf("%v, %d nodes: %d trees, error %d", test.ranks, n, len(got), e)
				}
			} else if e != api.OK || len(got) != test.want[n] {
				t.Errorf("%v, %d nodes: %d trees, error %d, want %d", test.ranks, n, len(got), e, test.want[n])
			}
			if !slices.IsSortedFunc(got, order) {
				t.Errorf("%v, %d nodes: not in order", test.ranks, n)
			}
		}
	}
}

// P1.5: numbers of trees close to the limit of 4096.
func TestAllLimit(t *testing.T) {
	tests := []struct {
		ranks     []int
		n, number int
	}{
		{[]int{0, 0, 1, 1, 1, 3, 3, 3, 3, 3}, 6, 4086},
		{[]int{0, 1, 1, 1, 1}, 7, 4096},
		{[]int{0, 0, 1, 2, 2, 2, 2, 2, 3, 3, 3, 3}, 6, 4122},
		{[]int{0, 1, 1, 1, 1, 1, 3, 3, 3, 3}, 6, 4125},
	}
	for _, test := range tests {
		a := api.Alphabet{Ranks: test.ranks}
		got, e := tree.All(a, test.n)
		if test.number > 4096 {
			if e != api.ErrFull || len(got) != 0 {
				t.Errorf("%d trees: %d trees, error %d", test.number, len(got), e)
			}
		} else if e != api.OK || len(got) != test.number || !sameLists(got, everyOver(a, test.n)) {
			t.Errorf("%d trees: %d trees, error %d", test.number, len(got), e)
		}
	}
}

// P1.5: large alphabets take no time to be refused, or to have no tree.
func TestAllLargeAlphabets(t *testing.T) {
	mixed := api.Alphabet{Ranks: []int{0, 0, 0, 1, 1, 1, 2, 2, 2, 3, 3, 3}}
	even := api.Alphabet{Ranks: []int{0, 0, 0, 0, 0, 0, 2, 2, 2, 2, 2, 2}}
	if l, e := tree.All(mixed, 12); e != api.ErrFull || len(l) != 0 {
		t.Errorf("mixed: %d trees, error %d", len(l), e)
	}
	if l, e := tree.All(even, 12); e != api.OK || len(l) != 0 {
		t.Errorf("even: %d trees, error %d", len(l), e)
	}
	if l, e := tree.All(even, 11); e != api.ErrFull || len(l) != 0 {
		t.Errorf("even: %d trees, error %d", len(l), e)
	}
	if l, e := tree.All(api.Alphabet{Ranks: make([]int, 12)}, 1); e != api.OK || len(l) != 12 || l[11].Sym != 11 {
		t.Errorf("leaves: %v, error %d", l, e)
	}
}

// P1.5: ErrArg comes before ErrRange.
func TestAllErrors(t *testing.T) {
	for _, n := range []int{0, -1, 13, 1 << 40, -1 << 40} {
		if l, e := tree.All(small, n); e != api.ErrRange || len(l) != 0 {
			t.Errorf("%d: %v, error %d", n, l, e)
		}
		if l, e := tree.All(api.Alphabet{}, n); e != api.ErrRange || len(l) != 0 {
			t.Errorf("%d, no symbols: %v, error %d", n, l, e)
		}
	}
	for _, a := range badAlphabets() {
		for _, n := range []int{-1, 0, 1, 12, 13} {
			if l, e := tree.All(a, n); e != api.ErrArg || len(l) != 0 {
				t.Errorf("%v, %d: %v, error %d", a, n, l, e)
			}
		}
	}
}

// P1.9: All lists the trees of one size in strictly increasing order of Compare.
func TestAllIsOrdered(t *testing.T) {
	var last []api.Tree
	for n := 1; n <= 5; n++ {
		l, e := tree.All(small, n)
		if e != api.OK {
			t.Fatalf("%d nodes: error %d", n, e)
		}
		last = append(last, l...)
	}
	for i := range len(last) - 1 {
		if tree.Compare(last[i], last[i+1]) != -1 || tree.Compare(last[i+1], last[i]) != 1 || tree.Compare(last[i], last[i]) != 0 {
			t.Errorf("%s and %s", show(last[i]), show(last[i+1]))
		}
	}
}
