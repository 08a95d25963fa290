package sample

import "boskage/api"

// AllSets returns an automaton of n states from 0 for which each set of states
// except for the empty one belongs to some tree. The alphabet needs a symbol 0
// of rank 0, and then four of rank 1: they turn all states by one, exchange 0
// and 1, add 1 beside 0, and forget 0. All states are useful.
func AllSets(n int) api.Automaton {
	a := api.Automaton{States: n, Final: []int{0}, Rules: []api.Rule{Rule(0, 0), Rule(3, 1, 0)}}
	for state := range n {
		other := state
		if state < 2 && n > 1 {
			other = 1 - state
		}
		a.Rules = append(a.Rules, Rule(1, (state+1)%n, state), Rule(2, other, state), Rule(3, state, state))
		if state > 0 {
			a.Rules = append(a.Rules, Rule(4, state, state))
		}
	}
	return a
}

// Counter returns a deterministic automaton over a (rank 0) and g (rank 1) that
// counts the nodes of a tree up to a number of states, and accepts the tree with
// this number of nodes.
func Counter(states int) api.Automaton {
	a := api.Automaton{States: states, Final: []int{states - 1}, Rules: []api.Rule{Rule(0, 0)}}
	for state := range states - 1 {
		a.Rules = append(a.Rules, Rule(1, state+1, state))
	}
	return a
}

// Full returns a deterministic and complete automaton whose states are all
// reachable.
func Full(al api.Alphabet, states int) api.Automaton {
	a := api.Automaton{States: states}
	for state := 0; state < states; state += 3 {
		a.Final = append(a.Final, state)
	}
	for sym, rank := range al.Ranks {
		for _, from := range Lists(rank, states) {
			to := sym
			for i, state := range from {
				to += (i + 1) * (state + 1)
			}
			a.Rules = append(a.Rules, Rule(sym, to%states, from...))
		}
	}
	return a
}

// RandomTrees makes a number of trees over al with at most so many nodes each.
func RandomTrees(al api.Alphabet, number, nodes int) []api.Tree {
	var s Source
	var list []api.Tree
	for range number {
		list = append(list, RandomTree(&s, al, 1+s.Below(nodes)))
	}
	return list
}
