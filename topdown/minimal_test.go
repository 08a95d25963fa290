package topdown_test

import (
	"boskage/api"
	"boskage/sample"
	"boskage/topdown"
	"slices"
	"testing"
)

// P10.6
func TestMinimal(t *testing.T) {
	forAll(func(al api.Alphabet, d api.Topdown) {
		got, e := topdown.Minimal(al, d)
		checkTopdown(t, "Minimal of "+sample.ShowTopdown(d), got, e, minimized(d))
		again, e := topdown.Minimal(al, got)
		checkTopdown(t, "Minimal twice", again, e, got)
	})
}

// P10.6: automata with more states.
func TestMinimalLarger(t *testing.T) {
	var s sample.Source
	for _, ranks := range [][]int{{0, 1}, {0, 0, 1, 1}, {2, 0, 0}, {1, 0, 0, 2}, {3, 1, 0}} {
		al := api.Alphabet{Ranks: ranks}
		for range 30 {
			d := sample.Topdown(&s, al, 6+s.Below(12))
			got, e := topdown.Minimal(al, d)
			checkTopdown(t, "Minimal of "+sample.ShowTopdown(d), got, e, minimized(d))
		}
	}
}

// P10.6: a language without trees, which is the chapter's second example.
func TestMinimalOfNothing(t *testing.T) {
	for i, d := range []api.Topdown{
		none(),
		{States: 1, Start: -1, Next: [][][]int{{{}, nil}}},
		{States: 1, Start: 0, Next: [][][]int{{nil, {0}}}},
		{States: 2, Start: 1, Next: [][][]int{{{}, {0}}, {nil, nil}}},
	} {
		got, e := topdown.Minimal(chains, d)
		checkTopdown(t, "automaton "+string(rune('0'+i)), got, e, none())
	}
}

// P10.6: a transition to no states is not the same as none, and states below a
// position count by their own trees.
func TestMinimalExamples(t *testing.T) {
	al := api.Alphabet{Ranks: []int{0, 0, 1, 2}}
	d := api.Topdown{States: 6, Start: 5, Next: [][][]int{
		0: {{}, nil, nil, nil},
		1: {nil, {}, nil, nil},
		2: {{}, nil, nil, nil},
		3: {nil, nil, {0}, {1, 2}},
		4: {nil, nil, {2}, {1, 0}},
		5: {nil, nil, {3}, {4, 3}},
	}}
	got, e := topdown.Minimal(al, d)
	checkTopdown(t, "Minimal", got, e, api.Topdown{States: 4, Start: 0, Next: [][][]int{
		{nil, nil, {1}, {1, 1}}, {nil, nil, {2}, {3, 2}}, {{}, nil, nil, nil}, {nil, {}, nil, nil},
	}})
}

// P10.6: MaxStates states that are all different, or all the same.
func TestMinimalLarge(t *testing.T) {
	for _, n := range []int{1, 2, 299, 300} {
		got, e := topdown.Minimal(chains, sample.CycleTopdown(n))
		checkTopdown(t, "a cycle", got, e, sample.CycleTopdown(n))
		same := sample.CycleTopdown(n)
		for state := range n {
			same.Next[state][0] = []int{}
		}
		got, e = topdown.Minimal(chains, same)
		checkTopdown(t, "the same", got, e, sample.EverythingTopdown(chains))
	}
}

// P10.6, P10.11: automata of all kinds with one language have one minimal
// automaton.
func TestUnique(t *testing.T) {
	var s sample.Source
	forAll(func(al api.Alphabet, d api.Topdown) {
		want, e := topdown.Minimal(al, d)
		for _, v := range variants(&s, al, d) {
			got, e2 := topdown.Minimal(al, v)
			checkTopdown(t, "Minimal of "+sample.ShowTopdown(v), got, e2, want)
			checkSame(t, al, d, v, true)
			checkSame(t, al, v, d, true)
			if e != api.OK || got.States > trimmed(v).States {
				t.Errorf("%s has %d states, error %d", sample.ShowTopdown(got), got.States, e)
			}
		}
	})
}

// P10.6, P10.11: Same compares languages.
func TestSame(t *testing.T) {
	for _, al := range sample.Alphabets() {
		trees := sample.Trees(al)
		automata := sample.Topdowns(al)
		for i, d := range automata {
			for _, j := range []int{i, (i + 1) % len(automata), (i * 7) % len(automata), (i + 20) % len(automata)} {
				e := automata[j]
				same := sample.EqualTopdowns(minimized(d), minimized(e))
				checkSame(t, al, d, e, same)
				if same && slices.ContainsFunc(trees, func(x api.Tree) bool { return sample.TopdownAccepts(d, x) != sample.TopdownAccepts(e, x) }) {
					t.Errorf("%s and %s are the same", sample.ShowTopdown(d), sample.ShowTopdown(e))
				}
			}
		}
	}
}

// P10.6: automata that differ in one transition.
func TestSameLarge(t *testing.T) {
	d := sample.CycleTopdown(300)
	other := sample.CycleTopdown(300)
	checkSame(t, chains, d, other, true)
	other.Next[299][0] = []int{}
	checkSame(t, chains, d, other, false)
	other = sample.CycleTopdown(300)
	other.Next[299][1] = []int{1}
	checkSame(t, chains, d, other, false)
	other = sample.CycleTopdown(300)
	other.Next[299][1] = nil
	checkSame(t, chains, d, other, false)
	other = sample.CycleTopdown(300)
	other.Start = 1
	checkSame(t, chains, d, other, false)
	other.Start = -1
	checkSame(t, chains, d, other, false)
	checkSame(t, chains, other, none(), true)
	checkSame(t, chains, d, sample.CycleTopdown(299), false)
}
