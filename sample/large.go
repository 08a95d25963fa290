package sample

import (
	"boskage/api"
	"slices"
)

// Over is an automaton with its alphabet.
type Over struct {
	Al api.Alphabet
	A  api.Automaton
}

// AllSets returns an automaton of n states from 0 for which each set of states
// except for the empty one belongs to some tree. The alphabet needs a symbol 0
// of rank 0, and then four of rank 1: they turn all states by one, exchange 0
// and 1, add 1 beside 0, and forget 0. All states are useful.
func AllSets(n int) api.Automaton {
	a := api.Automaton{States: n, Final: []int{0}, Rules: []api.Rule{Rule(0, 0), Rule(3, 1, 0)}}
	for state := range n {
		other := state
		if state < 2 && n > 1 {
			other = 1 - state
		}
		a.Rules = append(a.Rules, Rule(1, (state+1)%n, state), Rule(2, other, state), Rule(3, state, state))
		if state > 0 {
			a.Rules = append(a.Rules, Rule(4, state, state))
		}
	}
	return a
}

// Unite adds rules to a by which a symbol stands for the union of the sets of
// its subtrees.
func Unite(a api.Automaton, sym, rank int) api.Automaton {
	for _, from := range Lists(rank, a.States) {
		for _, state := range from {
			a.Rules = append(a.Rules, Rule(sym, state, from...))
		}
	}
	return a
}

// Largest returns automata with so many states that all sets of them, and one
// more, still fit into an automaton. All sets but the empty one belong to trees.
func Largest() []Over {
	threes := AllSets(4)
	for sym := 5; sym < 9; sym++ {
		threes = Unite(threes, sym, 3)
	}
	return []Over{
		{api.Alphabet{Ranks: []int{0, 1, 1, 1, 1}}, AllSets(8)},
		{api.Alphabet{Ranks: []int{0, 1, 1, 1, 1, 2}}, Unite(AllSets(7), 5, 2)},
		{api.Alphabet{Ranks: []int{0, 1, 1, 1, 1, 3, 3, 3, 3}}, threes},
	}
}

// Counter returns a deterministic automaton over a (rank 0) and g (rank 1) that
// counts the nodes of a tree up to a number of states, and accepts the tree with
// this number of nodes.
func Counter(states int) api.Automaton {
	a := api.Automaton{States: states, Final: []int{states - 1}, Rules: []api.Rule{Rule(0, 0)}}
	for state := range states - 1 {
		a.Rules = append(a.Rules, Rule(1, state+1, state))
	}
	return a
}

// Modulo returns an automaton that accepts the trees over a (rank 0), g and h
// (rank 1) in which the number of nodes with the symbol sym, which is g or h, is
// n - 1 modulo n.
func Modulo(sym, n int) api.Automaton {
	a := api.Automaton{States: n, Final: []int{n - 1}, Rules: []api.Rule{Rule(0, 0)}}
	for state := range n {
		a.Rules = append(a.Rules, Rule(sym, (state+1)%n, state), Rule(3-sym, state, state))
	}
	return a
}

// Power returns an automaton that accepts one tree: a full tree with the given
// number of levels, in which each node but the leaves has as many subtrees as
// the rank. The alphabet needs a symbol 0 of rank 0, and a symbol rank of this
// rank.
func Power(rank, levels int) api.Automaton {
	a := api.Automaton{States: levels, Final: []int{levels - 1}, Rules: []api.Rule{Rule(0, 0)}}
	for state := range levels - 1 {
		a.Rules = append(a.Rules, Rule(rank, state+1, slices.Repeat([]int{state}, rank)...))
	}
	return a
}

// Full returns a deterministic and complete automaton whose states are all
// reachable.
func Full(al api.Alphabet, states int) api.Automaton {
	a := api.Automaton{States: states}
	for state := 0; state < states; state += 3 {
		a.Final = append(a.Final, state)
	}
	for sym, rank := range al.Ranks {
		for _, from := range Lists(rank, states) {
			to := sym
			for i, state := range from {
				to += (i + 1) * (state + 1)
			}
			a.Rules = append(a.Rules, Rule(sym, to%states, from...))
		}
	}
	return a
}

// RandomTrees makes a number of trees over al with at most so many nodes each.
func RandomTrees(al api.Alphabet, number, nodes int) []api.Tree {
	var s Source
	var list []api.Tree
	for range number {
		list = append(list, RandomTree(&s, al, 1+s.Below(nodes)))
	}
	return list
}
