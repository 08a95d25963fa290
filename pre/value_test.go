package pre_test

import (
	"boskage/api"
	"boskage/pre"
	"boskage/sample"
	"slices"
	"testing"
)

// P16.4, P16.5
func TestValueAndOutputs(t *testing.T) {
	seen := map[int]int{}
	forCases(func(tr api.Transducer, b, _ api.Automaton, trees []api.Tree) {
		for _, x := range trees {
			states, e := pre.Value(tr, b, x)
			is, e2 := pre.Outputs(tr, b, x)
			y, defined := sample.Output(tr, x)
			if !defined {
				if len(states) != 0 || e != api.ErrInput || is || e2 != api.ErrInput {
					t.Errorf("%s, %v: %v, error %d, %t, error %d", show(tr, b), x, states, e, is, e2)
				}
				continue
			}
			want := sample.States(b, y)
			seen[len(want)]++
			if e != api.OK || e2 != api.OK || !slices.Equal(states, want) || is != sample.Accepts(b, y) {
				t.Errorf("%s, %v: %v, error %d, %t, error %d, want %v", show(tr, b), x, states, e, is, e2, want)
			}
		}
	})
	if seen[0] == 0 || seen[1] == 0 || seen[2] == 0 || seen[3] == 0 {
		t.Errorf("%v", seen)
	}
}

// P16.4, P16.5: outputs that are too large to be built or counted.
func TestValueOfLargeOutputs(t *testing.T) {
	tr := sample.Doubling()
	// The state is the depth modulo 7, if both subtrees have the same one.
	b := api.Automaton{States: 7, Final: []int{2, 3}, Rules: []api.Rule{sample.Rule(0, 0)}}
	for state := range 7 {
		b.Rules = append(b.Rules, sample.Rule(1, (state+1)%7, state, state))
	}
	for _, n := range []int{1, 14, 15, 61, 62, 63, 200, 300} {
		x := sample.Chain(n, 1, 0)
		states, e := pre.Value(tr, b, x)
		is, e2 := pre.Outputs(tr, b, x)
		if want := (n - 1) % 7; e != api.OK || e2 != api.OK || !slices.Equal(states, []int{want}) || is != (want == 2 || want == 3) {
			t.Errorf("%d nodes: %v, error %d, %t, error %d", n, states, e, is, e2)
		}
		// All subsets of the leaf's states go up, each by itself.
		more := sample.Copy(b)
		more.Rules = append(more.Rules, sample.Rule(0, 3), sample.Rule(0, 5))
		states, e = pre.Value(tr, more, x)
		want := []int{(n - 1) % 7, (n + 2) % 7, (n + 4) % 7}
		slices.Sort(want)
		if e != api.OK || !slices.Equal(states, want) {
			t.Errorf("%d nodes: %v, error %d, want %v", n, states, e, want)
		}
		none := sample.CopyTransducer(tr)
		none.Axiom = sample.Side(1, sample.Call(0, 0), sample.Call(1, 0))
		states, e = pre.Value(none, b, x)
		is, e2 = pre.Outputs(none, b, x)
		if len(states) != 0 || e != api.ErrInput || is || e2 != api.ErrInput {
			t.Errorf("%d nodes, undefined: %v, error %d, %t, error %d", n, states, e, is, e2)
		}
	}
}

// P16.4: two copies of a subtree may have different runs.
func TestValueOfCopies(t *testing.T) {
	// The leaf has the states 0 and 1, and f wants both of them.
	b := api.Automaton{States: 4, Final: []int{2}, Rules: []api.Rule{sample.Rule(0, 1), sample.Rule(0, 0), sample.Rule(1, 2, 0, 1), sample.Rule(1, 3, 1, 0), sample.Rule(1, 0, 2, 2)}}
	states, e := pre.Value(sample.Doubling(), b, sample.Chain(2, 1, 0))
	if e != api.OK || !slices.Equal(states, []int{2, 3}) {
		t.Errorf("%v, error %d", states, e)
	}
	states, e = pre.Value(sample.Doubling(), b, sample.Chain(3, 1, 0))
	if e != api.OK || !slices.Equal(states, []int{0}) {
		t.Errorf("%v, error %d", states, e)
	}
	is, e := pre.Outputs(sample.Doubling(), b, sample.Chain(2, 1, 0))
	if e != api.OK || !is {
		t.Errorf("%t, error %d", is, e)
	}
}

// P16.4: an automaton without states, and one for which no subset would fit.
func TestValueOfOddAutomata(t *testing.T) {
	x := sample.Chain(5, 1, 0)
	states, e := pre.Value(sample.Doubling(), api.Automaton{}, x)
	is, e2 := pre.Outputs(sample.Doubling(), api.Automaton{}, x)
	if len(states) != 0 || e != api.OK || is || e2 != api.OK {
		t.Errorf("%v, error %d, %t, error %d", states, e, is, e2)
	}
	al := api.Alphabet{Ranks: []int{0, 1, 1, 1, 1}}
	identity := api.Transducer{In: al, Out: al, States: 1, Axiom: sample.Call(0, 0), Domain: sample.EverythingTopdown(al)}
	row := [][]api.Out{{sample.Side(0)}}
	for sym := 1; sym < 5; sym++ {
		row = append(row, []api.Out{sample.Side(sym, sample.Call(0, 0))})
	}
	identity.Rules = [][][]api.Out{row}
	b := sample.AllSets(40)
	for _, x := range sample.RandomTrees(al, 50, api.MaxSize) {
		states, e := pre.Value(identity, b, x)
		if e != api.OK || !slices.Equal(states, sample.States(b, x)) {
			t.Errorf("%v, error %d", states, e)
		}
	}
}

// P16.4, P16.5: the largest transducers, trees and automata.
func TestValueLarge(t *testing.T) {
	tr := sample.LargeTransducer()
	tr.Domain = sample.EverythingTopdown(tr.In)
	var s sample.Source
	automata := []api.Automaton{sample.Full(tr.Out, 10), sample.Automaton(&s, tr.Out, api.MaxStates, api.MaxRules)}
	for _, b := range automata {
		for _, x := range append(sample.RandomTrees(tr.In, 2, api.MaxSize), sample.Chain(api.MaxSize, 1, 0)) {
			states, e := pre.Value(tr, b, x)
			if e != api.OK || b.States == 10 && len(states) != 1 {
				t.Errorf("%v, error %d", states, e)
			}
		}
	}
}
