package incl

import (
	"boskage/api"
	"boskage/empty"
	"boskage/tree"
)

// search returns the least tree that violates a property. It returns ErrNone if
// there is none, and ErrFull if it has more than MaxSize nodes.
type search func() (api.Tree, api.Errno)

// violations is an automaton that accepts the trees that violate a property.
type violations struct {
	al api.Alphabet
	a  api.Automaton
}

func (v violations) least() (api.Tree, api.Errno) {
	return empty.Least(v.al, v.a)
}

// lesser returns a search for the trees that the one or the other looks for. A
// tree with more than MaxSize nodes comes after all trees that are found.
func lesser(one, other search) search {
	return func() (api.Tree, api.Errno) {
		t, e := one()
		u, f := other()
		if e == api.OK && f == api.OK {
			if tree.Compare(t, u) < 0 {
				return t, api.OK
			}
			return u, api.OK
		}
		if e == api.OK || f == api.ErrNone {
			return t, e
		}
		return u, f
	}
}

// decide turns the result of a search into that of a decision.
func decide(least search) (bool, api.Tree, api.Errno) {
	t, e := least()
	if e == api.ErrNone {
		return true, api.Tree{}, api.OK
	}
	return false, t, e
}

// noTree returns a function that decides whether an automaton over al accepts no
// tree, where the automaton and its error are what an operation returned.
func noTree(al api.Alphabet) func(a api.Automaton, e api.Errno) (bool, api.Tree, api.Errno) {
	return func(a api.Automaton, e api.Errno) (bool, api.Tree, api.Errno) {
		if e != api.OK {
			return false, api.Tree{}, e
		}
		return decide(violations{al, a}.least)
	}
}
