package boolean_test

import (
	"boskage/api"
	"boskage/auto"
	"boskage/sample"
	"slices"
	"testing"
)

// small has a (rank 0), b (rank 0), g (rank 1) and f (rank 2).
var small = api.Alphabet{Ranks: []int{0, 0, 1, 2}}

// chains is the alphabet of sample.Modulo.
var chains = api.Alphabet{Ranks: []int{0, 1, 1}}

// chain makes a tree over chains with the given numbers of g and h.
func chain(g, h int) api.Tree {
	x := sample.Tree(0)
	for range g {
		x = sample.Tree(1, x)
	}
	for range h {
		x = sample.Tree(2, x)
	}
	return x
}

// manyRules makes an automaton over a (rank 0) and f (rank 2) with a number of
// rules, which are different if there are so many. One for each state has the
// symbol a. All states are useful.
func manyRules(states, rules int) api.Automaton {
	a := api.Automaton{States: states}
	for state := range states {
		a.Final = append(a.Final, state)
		a.Rules = append(a.Rules, sample.Rule(0, state))
	}
	for i := range rules - states {
		a.Rules = append(a.Rules, sample.Rule(1, (i*7+i/(states*states))%states, i%states, i/states%states))
	}
	return a
}

// forPairs calls f with alphabets, trees over them, and pairs of automata.
func forPairs(f func(al api.Alphabet, trees []api.Tree, a, b api.Automaton)) {
	for _, al := range sample.Alphabets() {
		trees := sample.Trees(al)
		automata := append(sample.Automata(al), api.Automaton{}, api.Automaton{States: 3, Final: []int{0, 1, 2}}, sample.Everything(al))
		for i, a := range automata {
			f(al, trees, a, automata[(i*37+11)%len(automata)])
			f(al, trees, a, automata[(i+len(automata)/2)%len(automata)])
		}
	}
}

// checkLanguage checks that a result is valid and accepts the trees of a list
// for which want returns true.
func checkLanguage(t *testing.T, what string, al api.Alphabet, a api.Automaton, e api.Errno, trees []api.Tree, want func(api.Tree) bool) {
	t.Helper()
	if e != api.OK || !auto.Valid(al, a) {
		t.Errorf("%s: %s, error %d", what, sample.Show(a), e)
		return
	}
	for _, x := range trees {
		got, e := auto.Accepts(al, a, x)
		if e != api.OK || got != want(x) {
			t.Errorf("%s: %s is wrong for %v, error %d", what, sample.Show(a), x, e)
			return
		}
	}
}

// checkLanguageOrFull is checkLanguage, unless the result is ErrFull.
func checkLanguageOrFull(t *testing.T, what string, al api.Alphabet, a api.Automaton, e api.Errno, trees []api.Tree, want func(api.Tree) bool) {
	t.Helper()
	if e == api.ErrFull {
		checkRefused(t, what, a, e, api.ErrFull)
		return
	}
	checkLanguage(t, what, al, a, e, trees, want)
}

// checkRefused checks a result that comes with an error.
func checkRefused(t *testing.T, what string, got api.Automaton, e, want api.Errno) {
	t.Helper()
	if e != want || !sample.Equal(got, api.Automaton{}) {
		t.Errorf("%s: got %s, error %d, want error %d", what, sample.Show(got), e, want)
	}
}

// acceptedBy returns the language of a, by its definition.
func acceptedBy(a api.Automaton) func(api.Tree) bool {
	return func(x api.Tree) bool { return sample.Accepts(a, x) }
}

// renamed replaces each symbol s of x by symbols[s].
func renamed(symbols []int, x api.Tree) api.Tree {
	y := api.Tree{Sym: symbols[x.Sym]}
	for _, kid := range x.Kids {
		y.Kids = append(y.Kids, renamed(symbols, kid))
	}
	return y
}

// has reports whether x or a tree below it has a property.
func has(x api.Tree, property func(api.Tree) bool) bool {
	return property(x) || slices.ContainsFunc(x.Kids, func(kid api.Tree) bool { return has(kid, property) })
}
