package boolean

import (
	"boskage/api"
	"boskage/auto"
	"boskage/bitset"
	"slices"
)

// Under returns an automaton that accepts the trees that have a subtree that a
// accepts and whose root symbol is s.
//
// Its run assigns states of a to the nodes of this subtree except for its root,
// a state found to the nodes from that root up, and a state other elsewhere.
func Under(al api.Alphabet, a api.Automaton, s int) (api.Automaton, api.Errno) {
	inner, e := auto.Trim(al, a)
	if e != api.OK {
		return api.Automaton{}, e
	}
	if s < 0 || s >= len(al.Ranks) {
		return api.Automaton{}, api.ErrRange
	}
	other, found := inner.States, inner.States+1
	under := api.Automaton{States: inner.States + 2, Final: []int{found}, Rules: inner.Rules}
	under.Rules = append(under.Rules, rootRules(inner, s, found)...)
	under.Rules = append(under.Rules, contextRules(al, other, found)...)
	if under.States > api.MaxStates || len(under.Rules) > api.MaxRules {
		return api.Automaton{}, api.ErrFull
	}
	return auto.Trim(al, under)
}

// rootRules returns the rules of a with the symbol s that lead to a final
// state, and leads them to found instead. They share their lists with a.
func rootRules(a api.Automaton, s, found int) []api.Rule {
	accepted := bitset.Of(a.Final...)
	var rules []api.Rule
	for _, r := range a.Rules {
		if r.Sym == s && accepted.Has(r.To) {
			rules = append(rules, api.Rule{Sym: s, From: r.From, To: found})
		}
	}
	return rules
}

// contextRules returns the rules that assign other to any node above nodes with
// other, and found to any node above one node with found.
func contextRules(al api.Alphabet, other, found int) []api.Rule {
	var rules []api.Rule
	for sym, rank := range al.Ranks {
		others := slices.Repeat([]int{other}, rank)
		rules = append(rules, api.Rule{Sym: sym, From: others, To: other})
		for pos := range rank {
			from := slices.Clone(others)
			from[pos] = found
			rules = append(rules, api.Rule{Sym: sym, From: from, To: found})
		}
	}
	return rules
}
