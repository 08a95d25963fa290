package auto_test

import (
	"boskage/api"
	"boskage/auto"
	"boskage/sample"
	"cmp"
	"slices"
	"testing"
)

// reachable applies the rules of a until nothing changes.
func reachable(a api.Automaton) []bool {
	reached := make([]bool, a.States)
	for range a.States + 1 {
		for _, r := range a.Rules {
			all := true
			for _, state := range r.From {
				all = all && reached[state]
			}
			reached[r.To] = reached[r.To] || all
		}
	}
	return reached
}

// useful goes down from the reachable final states until nothing changes.
func useful(a api.Automaton) []bool {
	reached := reachable(a)
	used := make([]bool, a.States)
	for _, state := range a.Final {
		used[state] = reached[state]
	}
	for range a.States + 1 {
		for _, r := range a.Rules {
			all := used[r.To]
			for _, state := range r.From {
				all = all && reached[state]
			}
			for _, state := range r.From {
				used[state] = used[state] || all
			}
		}
	}
	return used
}

// trimmed is Trim, word for word.
func trimmed(a api.Automaton) api.Automaton {
	used := useful(a)
	var names []int
	for state := range used {
		if used[state] {
			names = append(names, state)
		}
	}
	b := api.Automaton{States: len(names)}
	for _, state := range a.Final {
		if used[state] {
			b.Final = append(b.Final, slices.Index(names, state))
		}
	}
	for _, r := range a.Rules {
		renamed := sample.Rule(r.Sym, slices.Index(names, r.To))
		for _, state := range r.From {
			renamed.From = append(renamed.From, slices.Index(names, state))
		}
		if renamed.To >= 0 && !slices.Contains(renamed.From, -1) {
			b.Rules = append(b.Rules, renamed)
		}
	}
	order := func(x, y api.Rule) int {
		return cmp.Or(cmp.Compare(x.Sym, y.Sym), slices.Compare(x.From, y.From), cmp.Compare(x.To, y.To))
	}
	slices.SortFunc(b.Rules, order)
	b.Rules = slices.CompactFunc(b.Rules, func(x, y api.Rule) bool { return order(x, y) == 0 })
	return b
}

// P3.5
func TestReachableUsefulTrim(t *testing.T) {
	forAll(func(al api.Alphabet, a api.Automaton) {
		got, e := auto.Reachable(al, a)
		if e != api.OK || !slices.Equal(got, reachable(a)) {
			t.Errorf("%v: Reachable %v, error %d", sample.Show(a), got, e)
		}
		got, e = auto.Useful(al, a)
		if e != api.OK || !slices.Equal(got, useful(a)) {
			t.Errorf("%v: Useful %v, error %d", sample.Show(a), got, e)
		}
		b, e := auto.Trim(al, a)
		checkAutomaton(t, "Trim", b, e, trimmed(a))
	})
}

// P3.5: what trees show of states, for automata whose states need small trees
// only.
func TestReachableAndUsefulByTrees(t *testing.T) {
	for _, al := range sample.Alphabets() {
		trees := sample.Trees(al)
		for _, a := range sample.Automata(al) {
			if a.States > 2 {
				continue
			}
			reached, used := make([]bool, a.States), make([]bool, a.States)
			for _, x := range trees {
				for _, state := range sample.States(a, x) {
					reached[state] = true
				}
				markRuns(a, x, used)
			}
			got, e := auto.Reachable(al, a)
			if e != api.OK || !slices.Equal(got, reached) {
				t.Errorf("%v: Reachable %v, error %d, want %v", sample.Show(a), got, e, reached)
			}
			got, e = auto.Useful(al, a)
			if e != api.OK || !slices.Equal(got, used) {
				t.Errorf("%v: Useful %v, error %d, want %v", sample.Show(a), got, e, used)
			}
		}
	}
}

// markRuns marks the states of all runs on t that assign a final state to the
// root.
func markRuns(a api.Automaton, t api.Tree, used []bool) {
	var mark func(t api.Tree, state int)
	mark = func(t api.Tree, state int) {
		used[state] = true
		for _, r := range a.Rules {
			if r.Sym != t.Sym || r.To != state {
				continue
			}
			fits := true
			for i, kid := range t.Kids {
				fits = fits && slices.Contains(sample.States(a, kid), r.From[i])
			}
			for i := 0; fits && i < len(t.Kids); i++ {
				mark(t.Kids[i], r.From[i])
			}
		}
	}
	for _, state := range sample.States(a, t) {
		if slices.Contains(a.Final, state) {
			mark(t, state)
		}
	}
}

// P3.5: states for which only one reason speaks against their use.
func TestUsefulEdges(t *testing.T) {
	// 0 is accepted, 1 is below it, 2 leads nowhere, 3 is not reachable but
	// leads to 0, 4 occurs only beside 3, 5 is final and not reachable, 6 is
	// reachable and only in a rule of its own.
	a := api.Automaton{States: 7, Final: []int{0, 5}, Rules: []api.Rule{
		sample.Rule(3, 0, 1, 1), sample.Rule(2, 2, 0), sample.Rule(1, 4), sample.Rule(3, 0, 3, 4),
		sample.Rule(2, 0, 3), sample.Rule(2, 3, 5), sample.Rule(0, 1), sample.Rule(0, 6), sample.Rule(2, 6, 6),
		sample.Rule(0, 1), sample.Rule(3, 2, 0, 1), sample.Rule(2, 5, 5), sample.Rule(3, 0, 1, 0),
	}}
	reached, e := auto.Reachable(small, a)
	if e != api.OK || !slices.Equal(reached, []bool{true, true, true, false, true, false, true}) {
		t.Errorf("Reachable: %v, error %d", reached, e)
	}
	used, e := auto.Useful(small, a)
	if e != api.OK || !slices.Equal(used, []bool{true, true, false, false, false, false, false}) {
		t.Errorf("Useful: %v, error %d", used, e)
	}
	b, e := auto.Trim(small, a)
	checkAutomaton(t, "Trim", b, e, api.Automaton{States: 2, Final: []int{0}, Rules: []api.Rule{
		sample.Rule(0, 1), sample.Rule(3, 0, 1, 0), sample.Rule(3, 0, 1, 1),
	}})
}

// P3.5: automata of 300 states that are reachable one after the other.
func TestTrimLarge(t *testing.T) {
	al := api.Alphabet{Ranks: []int{1, 0, 2}}
	a := api.Automaton{States: 300, Final: []int{0}, Rules: []api.Rule{sample.Rule(1, 299)}}
	for i := range 299 {
		a.Rules = append(a.Rules, sample.Rule(0, i, i+1))
	}
	for i := range 15000 {
		a.Rules = append(a.Rules, sample.Rule(2, (i*7)%300, i%300, (i/300)%300))
	}
	all := slices.Repeat([]bool{true}, 300)
	reached, e := auto.Reachable(al, a)
	if e != api.OK || !slices.Equal(reached, all) {
		t.Errorf("Reachable: error %d", e)
	}
	used, e := auto.Useful(al, a)
	if e != api.OK || !slices.Equal(used, all) {
		t.Errorf("Useful: error %d", e)
	}
	b, e := auto.Trim(al, a)
	checkAutomaton(t, "Trim", b, e, trimmed(a))
	a.Final = nil
	b, e = auto.Trim(al, a)
	checkAutomaton(t, "Trim without final states", b, e, api.Automaton{})
	a.Final, a.Rules = []int{0}, a.Rules[1:]
	b, e = auto.Trim(al, a)
	checkAutomaton(t, "Trim without leaves", b, e, api.Automaton{})
}

// P3.9
func TestTrimKeepsTheLanguage(t *testing.T) {
	for _, al := range sample.Alphabets() {
		trees := sample.Trees(al)
		for i, a := range sample.Automata(al) {
			b, e := auto.Trim(al, a)
			checkErrno(t, "Trim", e, api.OK)
			used, e := auto.Useful(al, b)
			if e != api.OK || len(used) != b.States || slices.Contains(used, false) {
				t.Errorf("%v: not all states of %v are useful, error %d", sample.Show(a), sample.Show(b), e)
			}
			c, e := auto.Trim(al, b)
			checkAutomaton(t, "Trim of Trim", c, e, b)
			for j := i % 3; j < len(trees); j += 3 {
				if sample.Accepts(a, trees[j]) != sample.Accepts(b, trees[j]) {
					t.Errorf("Trim of %v: %v is wrong for %v", sample.Show(a), sample.Show(b), trees[j])
				}
			}
		}
	}
}
