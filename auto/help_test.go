package auto_test

import (
	"boskage/api"
	"boskage/auto"
	"boskage/sample"
	"slices"
	"testing"
)

// small has a (rank 0), b (rank 0), g (rank 1) and f (rank 2).
var small = api.Alphabet{Ranks: []int{0, 0, 1, 2}}

// example is the automaton of the chapter's example, over a (rank 0) and f
// (rank 2).
var exampleAlphabet = api.Alphabet{Ranks: []int{0, 2}}

func example() api.Automaton {
	return api.Automaton{States: 2, Final: []int{1}, Rules: []api.Rule{
		sample.Rule(0, 0), sample.Rule(1, 1, 0, 0), sample.Rule(1, 0, 1, 1),
	}}
}

// full has a rule for each list of states of each symbol, to the state 0.
func full(al api.Alphabet, states int) api.Automaton {
	a := api.Automaton{States: states}
	for sym, rank := range al.Ranks {
		for _, from := range sample.Lists(rank, states) {
			a.Rules = append(a.Rules, sample.Rule(sym, 0, from...))
		}
	}
	return a
}

// forAll calls f with each sample alphabet and each sample automaton over it.
func forAll(f func(al api.Alphabet, a api.Automaton)) {
	for _, al := range sample.Alphabets() {
		for _, a := range sample.Automata(al) {
			f(al, a)
		}
	}
}

// preorder appends the subtrees of t in the order of their positions.
func preorder(list []api.Tree, t api.Tree) []api.Tree {
	list = append(list, t)
	for _, kid := range t.Kids {
		list = preorder(list, kid)
	}
	return list
}

// isRun reports whether run assigns states to the nodes of t, in the order of
// their positions, as the definition of accepting runs requires.
func isRun(a api.Automaton, t api.Tree, run []int) bool {
	nodes := preorder(nil, t)
	if len(run) != len(nodes) || !slices.Contains(a.Final, run[0]) {
		return false
	}
	for i, x := range nodes {
		r := api.Rule{Sym: x.Sym, To: run[i]}
		next := i + 1
		for _, kid := range x.Kids {
			r.From = append(r.From, run[next])
			next += len(preorder(nil, kid))
		}
		if !slices.ContainsFunc(a.Rules, func(other api.Rule) bool {
			return r.Sym == other.Sym && r.To == other.To && slices.Equal(r.From, other.From)
		}) {
			return false
		}
	}
	return true
}

// checkErrno checks an error.
func checkErrno(t *testing.T, what string, got, want api.Errno) {
	t.Helper()
	if got != want {
		t.Errorf("%s: error %d, want %d", what, got, want)
	}
}

// checkAutomaton checks a result and its error.
func checkAutomaton(t *testing.T, what string, got api.Automaton, e api.Errno, want api.Automaton) {
	t.Helper()
	if e != api.OK || !sample.Equal(got, want) {
		t.Errorf("%s: got %v, error %d, want %v", what, sample.Show(got), e, sample.Show(want))
	}
}

// checkRefused checks a result that comes with an error.
func checkRefused(t *testing.T, what string, got api.Automaton, e, want api.Errno) {
	t.Helper()
	if e != want || !sample.Equal(got, api.Automaton{}) {
		t.Errorf("%s: got %v, error %d, want error %d", what, sample.Show(got), e, want)
	}
}

// deterministic asks auto.Deterministic.
func deterministic(t *testing.T, al api.Alphabet, a api.Automaton) bool {
	t.Helper()
	is, e := auto.Deterministic(al, a)
	checkErrno(t, "Deterministic", e, api.OK)
	return is
}
