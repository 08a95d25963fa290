package deter_test

import (
	"boskage/api"
	"boskage/auto"
	"boskage/sample"
	"testing"
)

// withB is the automaton of the chapter's example: the trees over a, b (rank 0)
// and f (rank 2) with some leaf b.
var withBAlphabet = api.Alphabet{Ranks: []int{0, 0, 2}}

func withB() api.Automaton {
	return api.Automaton{States: 2, Final: []int{1}, Rules: []api.Rule{
		sample.Rule(0, 0), sample.Rule(1, 0), sample.Rule(1, 1),
		sample.Rule(2, 0, 0, 0), sample.Rule(2, 1, 1, 0), sample.Rule(2, 1, 0, 1),
	}}
}

// allSets returns an automaton of n states from 0 for which each set of states
// except for the empty one belongs to some tree. The alphabet needs a symbol 0
// of rank 0, and then four of rank 1: they turn all states by one, exchange 0
// and 1, add 1 beside 0, and forget 0. All states are useful.
func allSets(n int) api.Automaton {
	a := api.Automaton{States: n, Final: []int{0}, Rules: []api.Rule{sample.Rule(0, 0), sample.Rule(3, 1, 0)}}
	for state := range n {
		other := state
		if state < 2 && n > 1 {
			other = 1 - state
		}
		a.Rules = append(a.Rules, sample.Rule(1, (state+1)%n, state), sample.Rule(2, other, state), sample.Rule(3, state, state))
		if state > 0 {
			a.Rules = append(a.Rules, sample.Rule(4, state, state))
		}
	}
	return a
}

// union adds rules to a by which a symbol stands for the union of the sets of
// its subtrees.
func union(a api.Automaton, sym, rank int) api.Automaton {
	for _, from := range sample.Lists(rank, a.States) {
		for _, state := range from {
			a.Rules = append(a.Rules, sample.Rule(sym, state, from...))
		}
	}
	return a
}

// cycle returns a deterministic automaton over a (rank 0) and g (rank 1) that
// counts the nodes of a tree up to a number of states.
func cycle(states int) api.Automaton {
	a := api.Automaton{States: states, Final: []int{states - 1}, Rules: []api.Rule{sample.Rule(0, 0)}}
	for state := range states - 1 {
		a.Rules = append(a.Rules, sample.Rule(1, state+1, state))
	}
	return a
}

// checkAutomaton checks a result and its error.
func checkAutomaton(t *testing.T, what string, got api.Automaton, e api.Errno, want api.Automaton) {
	t.Helper()
	if e != api.OK || !sample.Equal(got, want) {
		t.Errorf("%s: got %s, error %d, want %s", what, sample.Show(got), e, sample.Show(want))
	}
}

// checkRefused checks a result that comes with an error.
func checkRefused(t *testing.T, what string, got api.Automaton, e, want api.Errno) {
	t.Helper()
	if e != want || !sample.Equal(got, api.Automaton{}) {
		t.Errorf("%s: got %s, error %d, want error %d", what, sample.Show(got), e, want)
	}
}

// checkDeterministic checks that a result is a valid deterministic automaton.
func checkDeterministic(t *testing.T, what string, al api.Alphabet, a api.Automaton, e api.Errno) {
	t.Helper()
	if e != api.OK || !auto.Valid(al, a) || !sample.Deterministic(a) {
		t.Errorf("%s: %s, error %d", what, sample.Show(a), e)
	}
}

// fullNumber is the full number of rules.
func fullNumber(al api.Alphabet, states int) int {
	number := 0
	for _, rank := range al.Ranks {
		number += [...]int{1, states, states * states, states * states * states}[rank]
	}
	return number
}

// checkComplete checks that a deterministic automaton has a rule for each list.
func checkComplete(t *testing.T, what string, al api.Alphabet, a api.Automaton) {
	t.Helper()
	if len(a.Rules) != fullNumber(al, a.States) {
		t.Errorf("%s: %s is not complete", what, sample.Show(a))
	}
}

// checkLanguage checks that b accepts the trees of a list that a accepts, or
// that it accepts the others.
func checkLanguage(t *testing.T, what string, trees []api.Tree, a, b api.Automaton, same bool) {
	t.Helper()
	for _, x := range trees {
		if (sample.Accepts(a, x) == sample.Accepts(b, x)) != same {
			t.Errorf("%s of %s: %s is wrong for %v", what, sample.Show(a), sample.Show(b), x)
			return
		}
	}
}

// randomTrees returns trees over al.
func randomTrees(al api.Alphabet, number, nodes int) []api.Tree {
	var s sample.Source
	var list []api.Tree
	for range number {
		list = append(list, sample.RandomTree(&s, al, 1+s.Below(nodes)))
	}
	return list
}
