package deter_test

import (
	"boskage/api"
	"boskage/auto"
	"boskage/sample"
	"testing"
)

// withBAlphabet is the alphabet of the chapter's example.
var withBAlphabet = sample.WithB().Al

// checkAutomaton checks a result and its error.
func checkAutomaton(t *testing.T, what string, got api.Automaton, e api.Errno, want api.Automaton) {
	t.Helper()
	if e != api.OK || !sample.Equal(got, want) {
		t.Errorf("%s: got %s, error %d, want %s", what, sample.Show(got), e, sample.Show(want))
	}
}

// checkRefused checks a result that comes with an error.
func checkRefused(t *testing.T, what string, got api.Automaton, e, want api.Errno) {
	t.Helper()
	if e != want || !sample.Equal(got, api.Automaton{}) {
		t.Errorf("%s: got %s, error %d, want error %d", what, sample.Show(got), e, want)
	}
}

// checkDeterministic checks that a result is a valid deterministic automaton.
func checkDeterministic(t *testing.T, what string, al api.Alphabet, a api.Automaton, e api.Errno) {
	t.Helper()
	if e != api.OK || !auto.Valid(al, a) || !sample.Deterministic(a) {
		t.Errorf("%s: %s, error %d", what, sample.Show(a), e)
	}
}

// fullNumber is the full number of rules.
func fullNumber(al api.Alphabet, states int) int {
	number := 0
	for _, rank := range al.Ranks {
		number += [...]int{1, states, states * states, states * states * states}[rank]
	}
	return number
}

// checkComplete checks that a deterministic automaton has a rule for each list.
func checkComplete(t *testing.T, what string, al api.Alphabet, a api.Automaton) {
	t.Helper()
	if len(a.Rules) != fullNumber(al, a.States) {
		t.Errorf("%s: %s is not complete", what, sample.Show(a))
	}
}

// checkLanguage checks that b accepts the trees of a list that a accepts, or
// that it accepts the others.
func checkLanguage(t *testing.T, what string, trees []api.Tree, a, b api.Automaton, same bool) {
	t.Helper()
	for _, x := range trees {
		if (sample.Accepts(a, x) == sample.Accepts(b, x)) != same {
			t.Errorf("%s of %s: %s is wrong for %v", what, sample.Show(a), sample.Show(b), x)
			return
		}
	}
}
