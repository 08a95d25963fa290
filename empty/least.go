package empty

import (
	"boskage/api"
	"boskage/auto"
	"boskage/tree"
	"slices"
)

// Least returns the least tree that a accepts.
func Least(al api.Alphabet, a api.Automaton) (api.Tree, api.Errno) {
	trimmed, e := trimmedUnlessEmpty(al, a)
	if e != api.OK {
		return api.Tree{}, e
	}
	sizes := measure(trimmed, add, lower)
	size := best(sizes, trimmed.Final, lower)
	if size > api.MaxSize {
		return api.Tree{}, api.ErrFull
	}
	least := leastTrees(trimmed, sizes)
	var candidates []api.Tree
	for _, state := range trimmed.Final {
		if sizes[state] == size {
			candidates = append(candidates, least(state))
		}
	}
	// Least trees of states share subtrees, what At returns does not.
	return tree.At(al, slices.MinFunc(candidates, tree.Compare), nil)
}

// LeastOf returns the least tree to whose root some run assigns s.
func LeastOf(al api.Alphabet, a api.Automaton, s int) (api.Tree, api.Errno) {
	if !auto.Valid(al, a) {
		return api.Tree{}, api.ErrArg
	}
	if s < 0 || s >= a.States {
		return api.Tree{}, api.ErrRange
	}
	return Least(al, api.Automaton{States: a.States, Final: []int{s}, Rules: a.Rules})
}

// leastTrees returns a function that returns the least tree to whose root some
// run assigns a state, where sizes are the minimum sizes of such trees. The
// function accepts states whose size is at most MaxSize.
//
// A tree of the minimum size has subtrees of the minimum sizes for their
// states, so of these only the least ones count.
func leastTrees(a api.Automaton, sizes []int) func(state int) api.Tree {
	rules := make([][]api.Rule, a.States)
	for _, r := range a.Rules {
		if valueOf(r, sizes, add) == sizes[r.To] {
			rules[r.To] = append(rules[r.To], r)
		}
	}
	known := map[int]api.Tree{}
	var least func(state int) api.Tree
	least = func(state int) api.Tree {
		if t, ok := known[state]; ok {
			return t
		}
		var candidates []api.Tree
		for _, r := range rules[state] {
			t := api.Tree{Sym: r.Sym}
			for _, from := range r.From {
				t.Kids = append(t.Kids, least(from))
			}
			candidates = append(candidates, t)
		}
		t := slices.MinFunc(candidates, tree.Compare)
		known[state] = t
		return t
	}
	return least
}
