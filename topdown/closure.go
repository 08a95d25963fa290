package topdown

import (
	"boskage/api"
	"boskage/auto"
	"boskage/bitset"
	"boskage/boolean"
	"boskage/empty"
	"boskage/explore"
)

// Closure returns an automaton of the path closure of the language of a.
//
// Its states are the sets of states of a that the symbols on a path permit. As
// all states of a are useful, each of its rules occurs in accepted trees.
func Closure(al api.Alphabet, a api.Automaton) (api.Topdown, api.Errno) {
	trimmed, e := auto.Trim(al, a)
	if e != api.OK {
		return api.Topdown{}, e
	}
	if len(trimmed.Final) == 0 {
		return api.Topdown{Start: nothing}, api.OK
	}
	rules := make([][]api.Rule, len(al.Ranks))
	for _, r := range trimmed.Rules {
		rules[r.Sym] = append(rules[r.Sym], r)
	}
	return explore.Topdown(al, bitset.Of(trimmed.Final...), func(from bitset.Set, sym int) []bitset.Set {
		return setsBelow(rules[sym], from)
	})
}

// setsBelow returns for each position the states in From of the rules to the
// states of a set, or nil if there are no such rules.
func setsBelow(rules []api.Rule, to bitset.Set) []bitset.Set {
	var sets []bitset.Set
	for _, r := range rules {
		if !to.Has(r.To) {
			continue
		}
		if sets == nil {
			sets = make([]bitset.Set, len(r.From))
		}
		for i, state := range r.From {
			sets[i].Add(state)
		}
	}
	return sets
}

// Closed decides whether the language of a is path-closed: whether a accepts
// all trees of its path closure.
func Closed(al api.Alphabet, a api.Automaton) (bool, api.Tree, api.Errno) {
	added, e := addedByClosure(al, a)
	if e != api.OK {
		return false, api.Tree{}, e
	}
	least, e := empty.Least(al, added)
	if e == api.ErrNone {
		return true, api.Tree{}, api.OK
	}
	return false, least, e
}

// addedByClosure returns an automaton that accepts the trees of the path closure
// that a does not accept.
func addedByClosure(al api.Alphabet, a api.Automaton) (api.Automaton, api.Errno) {
	closure, e := Closure(al, a)
	if e != api.OK {
		return api.Automaton{}, e
	}
	smallest, e := Minimal(al, closure)
	if e != api.OK {
		return api.Automaton{}, e
	}
	whole, e := Auto(al, smallest)
	if e != api.OK {
		return api.Automaton{}, e
	}
	return boolean.Minus(al, whole, a)
}
