package deter_test

import (
	"boskage/api"
	"boskage/deter"
	"boskage/sample"
	"slices"
	"testing"
)

// subset is Subset, word for word.
func subset(al api.Alphabet, a api.Automaton) (api.Automaton, [][]int) {
	var sets [][]int
	number := func(set []int) int {
		return slices.IndexFunc(sets, func(other []int) bool { return slices.Equal(set, other) })
	}
	rules := func(states int, found func(sym int, from, set []int)) {
		for sym, rank := range al.Ranks {
			for _, from := range sample.Lists(rank, states) {
				kids := make([][]int, rank)
				for i, state := range from {
					kids[i] = sets[state]
				}
				if set := sample.Targets(a, sym, kids); len(set) > 0 {
					found(sym, from, set)
				}
			}
		}
	}
	for earlier := -1; earlier < len(sets); {
		earlier = len(sets)
		rules(earlier, func(sym int, from, set []int) {
			if number(set) < 0 {
				sets = append(sets, set)
			}
		})
	}
	b := api.Automaton{States: len(sets)}
	for i, set := range sets {
		if slices.ContainsFunc(set, func(state int) bool { return slices.Contains(a.Final, state) }) {
			b.Final = append(b.Final, i)
		}
	}
	rules(len(sets), func(sym int, from, set []int) {
		b.Rules = append(b.Rules, sample.Rule(sym, number(set), from...))
	})
	return b, sets
}

// checkSubset compares the result of Subset with the definition.
func checkSubset(t *testing.T, al api.Alphabet, a api.Automaton) {
	t.Helper()
	b, sets, e := deter.Subset(al, a)
	want, wantSets := subset(al, a)
	checkAutomaton(t, "Subset of "+sample.Show(a), b, e, want)
	if !slices.EqualFunc(sets, wantSets, slices.Equal[[]int]) {
		t.Errorf("Subset of %s: %v, want %v", sample.Show(a), sets, wantSets)
	}
	checkDeterministic(t, "Subset", al, b, e)
}

// P4.4, P4.5, P4.6
func TestSubset(t *testing.T) {
	for _, al := range sample.Alphabets() {
		trees := sample.Trees(al)
		for _, a := range append(sample.Automata(al), api.Automaton{}, api.Automaton{States: 3, Final: []int{0, 1, 2}}) {
			checkSubset(t, al, a)
			b, sets, _ := deter.Subset(al, a)
			checkLanguage(t, "Subset", trees, a, b, true)
			checkSets(t, a, b, sets, trees)
		}
	}
}

// checkSets checks that the state of each tree stands for the states of a.
func checkSets(t *testing.T, a, b api.Automaton, sets [][]int, trees []api.Tree) {
	t.Helper()
	for _, x := range trees {
		want := sample.States(a, x)
		got := sample.States(b, x)
		if len(want) == 0 && len(got) > 0 || len(want) > 0 && (len(got) != 1 || !slices.Equal(sets[got[0]], want)) {
			t.Errorf("%s: %v has the states %v, not %v", sample.Show(a), x, got, want)
		}
	}
}

// P4.4: the chapter's example.
func TestSubsetExample(t *testing.T) {
	b, sets, e := deter.Subset(withBAlphabet, sample.WithB().A)
	checkAutomaton(t, "example", b, e, api.Automaton{States: 2, Final: []int{1}, Rules: []api.Rule{
		sample.Rule(0, 0), sample.Rule(1, 1), sample.Rule(2, 0, 0, 0), sample.Rule(2, 1, 0, 1), sample.Rule(2, 1, 1, 0), sample.Rule(2, 1, 1, 1),
	}})
	if !slices.EqualFunc(sets, [][]int{{0}, {0, 1}}, slices.Equal[[]int]) {
		t.Errorf("example: %v", sets)
	}
}

// P4.4: rounds decide about numbers before symbols and lists do.
func TestSubsetRounds(t *testing.T) {
	// The symbols 0 and 1 have rank 1, 2 has rank 2, 3 and 4 have rank 0.
	al := api.Alphabet{Ranks: []int{1, 1, 2, 0, 0}}
	a := api.Automaton{States: 8, Final: []int{0, 5}, Rules: []api.Rule{
		sample.Rule(4, 0), sample.Rule(3, 1),
		sample.Rule(0, 2, 0), sample.Rule(0, 3, 1), sample.Rule(1, 4, 1), sample.Rule(0, 5, 3), sample.Rule(2, 6, 0, 1), sample.Rule(2, 6, 0, 0), sample.Rule(2, 7, 1, 3), sample.Rule(2, 0, 7, 7),
	}}
	b, sets, e := deter.Subset(al, a)
	if e != api.OK || !slices.EqualFunc(sets, [][]int{{1}, {0}, {3}, {2}, {4}, {6}, {5}, {7}}, slices.Equal[[]int]) {
		t.Errorf("%v, error %d", sets, e)
	}
	checkAutomaton(t, "rounds", b, e, api.Automaton{States: 8, Final: []int{1, 6}, Rules: []api.Rule{
		sample.Rule(0, 2, 0), sample.Rule(0, 3, 1), sample.Rule(0, 6, 2), sample.Rule(1, 4, 0),
		sample.Rule(2, 7, 0, 2), sample.Rule(2, 5, 1, 0), sample.Rule(2, 5, 1, 1), sample.Rule(2, 1, 7, 7), sample.Rule(3, 0), sample.Rule(4, 1),
	}})
	checkSubset(t, al, a)
}

// P4.4: more states and rules, and states up to 299.
func TestSubsetLarger(t *testing.T) {
	var s sample.Source
	for _, ranks := range [][]int{{0, 0, 1, 1}, {2, 0, 0}, {0, 3}, {1, 0, 2, 3}} {
		al := api.Alphabet{Ranks: ranks}
		for range 10 {
			a := sample.Automaton(&s, al, 4+s.Below(8), 10+s.Below(20))
			if b, _, e := deter.Subset(al, a); e == api.OK && b.States <= 20 {
				checkSubset(t, al, a)
			}
		}
	}
	al := api.Alphabet{Ranks: []int{0, 1, 0}}
	checkSubset(t, al, api.Automaton{States: 300, Final: []int{64, 299}, Rules: []api.Rule{
		sample.Rule(0, 299), sample.Rule(0, 0), sample.Rule(1, 64, 299), sample.Rule(1, 63, 0), sample.Rule(1, 128, 0), sample.Rule(2, 192), sample.Rule(1, 255, 192), sample.Rule(1, 256, 192), sample.Rule(1, 0, 64), sample.Rule(1, 299, 256),
	}})
}

// P4.4: the sets of all kinds are found.
func TestSubsetAllSets(t *testing.T) {
	for _, x := range sample.Largest() {
		name := sample.Show(x.A)
		b, sets, e := deter.Subset(x.Al, x.A)
		checkDeterministic(t, name, x.Al, b, e)
		if number := 1<<x.A.States - 1; b.States != number || len(sets) != number {
			t.Errorf("%s: %d states and %d sets instead of %d", name, b.States, len(sets), number)
		}
		if len(b.Rules) > 0 && !slices.IsSortedFunc(b.Rules, orderOfRules) {
			t.Errorf("%s: the rules are not in order", name)
		}
	}
}

func orderOfRules(a, b api.Rule) int {
	return slices.Compare(append([]int{a.Sym}, a.From...), append([]int{b.Sym}, b.From...))
}

// chainOfSets has n sets: one for each state of a chain, and one more for the
// first state together with the last one.
func chainOfSets(n int) api.Automaton {
	a := sample.Counter(n - 1)
	a.Rules = append(a.Rules, sample.Rule(2, 0), sample.Rule(2, n-2))
	return a
}

// P4.4: MaxStates states, and more.
func TestSubsetMaxStates(t *testing.T) {
	al := api.Alphabet{Ranks: []int{0, 1, 0}}
	b, sets, e := deter.Subset(al, chainOfSets(300))
	checkDeterministic(t, "300 sets", al, b, e)
	if b.States != 300 || len(sets) != 300 || !slices.Equal(sets[1], []int{0, 298}) || len(b.Rules) != 301 {
		t.Errorf("300 sets: %s, %d sets", sample.Show(b), len(sets))
	}
	b, sets, e = deter.Subset(al, chainOfSets(301))
	checkRefused(t, "301 sets", b, e, api.ErrFull)
	if len(sets) > 0 {
		t.Errorf("301 sets: %d sets", len(sets))
	}
	for _, states := range []int{9, 20, 300} {
		b, sets, e = deter.Subset(api.Alphabet{Ranks: []int{0, 1, 1, 1, 1}}, sample.AllSets(states))
		checkRefused(t, "all sets", b, e, api.ErrFull)
		if len(sets) > 0 {
			t.Errorf("all sets: %d sets", len(sets))
		}
	}
}

// P4.4: MaxRules rules, and more. The set {0, 140} doubles the rules for 0.
func TestSubsetMaxRules(t *testing.T) {
	al := api.Alphabet{Ranks: []int{0, 0, 1, 2}}
	a := api.Automaton{States: 141, Rules: []api.Rule{sample.Rule(0, 0), sample.Rule(1, 0), sample.Rule(1, 140)}}
	for _, from := range sample.Lists(2, 140) {
		a.Rules = append(a.Rules, sample.Rule(3, (from[0]+from[1]+1)%140, from...))
	}
	for i := range 117 {
		a.Rules = append(a.Rules, sample.Rule(2, i, i+1))
	}
	b, sets, e := deter.Subset(al, a)
	checkDeterministic(t, "20000 rules", al, b, e)
	if b.States != 141 || len(sets) != 141 || len(b.Rules) != api.MaxRules {
		t.Errorf("20000 rules: %s", sample.Show(b))
	}
	a.Rules = append(a.Rules, sample.Rule(2, 0, 130))
	b, sets, e = deter.Subset(al, a)
	checkRefused(t, "20001 rules", b, e, api.ErrFull)
	if len(sets) > 0 {
		t.Errorf("20001 rules: %d sets", len(sets))
	}
}
