package tree

import (
	"boskage/api"
	"slices"
)

// Positions returns all positions of t in lexicographic order.
func Positions(a api.Alphabet, t api.Tree) ([][]int, api.Errno) {
	if !Valid(a, t) {
		return nil, api.ErrArg
	}
	var all [][]int
	for pos := range subtrees(t) {
		all = append(all, slices.Clone(pos))
	}
	return all, api.OK
}

// At returns the subtree of t at pos.
func At(a api.Alphabet, t api.Tree, pos []int) (api.Tree, api.Errno) {
	if !Valid(a, t) {
		return api.Tree{}, api.ErrArg
	}
	place, found := find(&t, pos)
	if !found {
		return api.Tree{}, api.ErrNone
	}
	return clone(*place), api.OK
}

// Put returns t with its subtree at pos replaced by x.
func Put(a api.Alphabet, t api.Tree, pos []int, x api.Tree) (api.Tree, api.Errno) {
	if !Valid(a, t) || !Valid(a, x) {
		return api.Tree{}, api.ErrArg
	}
	result := clone(t)
	place, found := find(&result, pos)
	if !found {
		return api.Tree{}, api.ErrNone
	}
	if Size(t)-Size(*place)+Size(x) > api.MaxSize {
		return api.Tree{}, api.ErrFull
	}
	*place = clone(x)
	return result, api.OK
}

// find returns the place of the subtree of t at pos, if t has this position.
func find(t *api.Tree, pos []int) (*api.Tree, bool) {
	for _, i := range pos {
		if i < 0 || i >= len(t.Kids) {
			return nil, false
		}
		t = &t.Kids[i]
	}
	return t, true
}
