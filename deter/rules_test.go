package deter_test

import (
	"boskage/api"
	"boskage/deter"
	"boskage/sample"
	"reflect"
	"slices"
	"testing"
)

// result is what one call returns.
type result struct {
	what string
	a    api.Automaton
	sets [][]int
	e    api.Errno
}

// callAll calls all functions.
func callAll(al api.Alphabet, a api.Automaton) []result {
	det, e1 := deter.Det(al, a)
	filled, e2 := deter.Fill(al, a)
	complement, e3 := deter.Complement(al, a)
	subsets, sets, e4 := deter.Subset(al, a)
	return []result{{"Det", det, nil, e1}, {"Fill", filled, nil, e2}, {"Complement", complement, nil, e3}, {"Subset", subsets, sets, e4}}
}

// P1, P2: all arguments are accepted, equal calls have equal results, and
// with an error they are zero.
func TestAnyArguments(t *testing.T) {
	for _, al := range append(sample.BadAlphabets(), api.Alphabet{}, withBAlphabet, api.Alphabet{Ranks: []int{0, 1, 2, 3}}) {
		for _, a := range slices.Concat(sample.BadAutomata(withBAlphabet), sample.Automata(withBAlphabet)[:20], []api.Automaton{{}, sample.WithB().A, sample.AllSets(300), sample.Counter(300)}) {
			results := callAll(al, a)
			if !reflect.DeepEqual(results, callAll(al, a)) {
				t.Errorf("%v, %s: equal calls have different results", al, sample.Show(a))
			}
			for _, r := range results {
				if r.e < api.OK || r.e > api.ErrState || r.e != api.OK && (!sample.Equal(r.a, api.Automaton{}) || len(r.sets) > 0) {
					t.Errorf("%s over %v: error %d", r.what, al, r.e)
				}
			}
		}
	}
}

// P2: with many rules, results are the same in each call.
func TestResultsAreTheSame(t *testing.T) {
	var s sample.Source
	al := api.Alphabet{Ranks: []int{0, 0, 0, 1, 2, 2}}
	for range 20 {
		a := sample.Automaton(&s, al, 5, 60)
		first := callAll(al, a)
		for range 5 {
			if !reflect.DeepEqual(first, callAll(al, a)) {
				t.Errorf("%s: equal calls have different results", sample.Show(a))
			}
		}
	}
}

// P2: results share no memory with arguments or other results, and arguments
// are not changed.
func TestNoSharing(t *testing.T) {
	al := api.Alphabet{Ranks: []int{0, 0, 1, 2}}
	for i, a := range append(sample.Automata(al), sample.Full(al, 2), sample.Full(al, 3)) {
		before := sample.Copy(a)
		all := []api.Automaton{a}
		for _, r := range append(callAll(al, a), callAll(al, a)...) {
			all = append(all, r.a)
			for _, set := range r.sets {
				all = append(all, api.Automaton{Final: set})
			}
		}
		if sample.Share(all...) {
			t.Errorf("automaton %d: memory is shared", i)
		}
		if !sample.Equal(a, before) {
			t.Errorf("automaton %d was changed", i)
		}
	}
}
