package mini

import (
	"boskage/api"
	"boskage/sample"
	"slices"
	"testing"
)

// P7.1: states are numbered in rounds, whatever their numbers were before.
// (Minimal itself is tested elsewhere; there the states often have the right
// numbers already.)
func TestRounds(t *testing.T) {
	var s sample.Source
	for _, al := range sample.Alphabets() {
		for _, a := range append(sample.Automata(al), sample.Everything(al)) {
			minimal, e := Minimal(al, a)
			for range 3 {
				numbers := shuffled(&s, minimal.States)
				other := renamed(minimal, numbers)
				slices.Reverse(other.Rules)
				if again := renamed(other, rounds(other)); e != api.OK || !Equal(again, minimal) {
					t.Errorf("%s: %s, error %d, want %s", sample.Show(other), sample.Show(again), e, sample.Show(minimal))
				}
			}
		}
	}
}

// shuffled returns the numbers from 0 to n - 1 in another order.
func shuffled(s *sample.Source, n int) []int {
	list := make([]int, n)
	for i := range list {
		j := s.Below(i + 1)
		list[i], list[j] = list[j], i
	}
	return list
}

// P7.1: more than 256 classes and more than 2^15 contexts.
func TestManyContexts(t *testing.T) {
	al := api.Alphabet{Ranks: []int{0, 1, 3}}
	a := sample.Counter(300)
	for i := 0; len(a.Rules) < api.MaxRules; i++ {
		a.Rules = append(a.Rules, sample.Rule(2, (i*7+i/300)%300, i%300, (i*11+i/300)%300, (i*i+i/300)%300))
	}
	minimal, e := Minimal(al, a)
	if e != api.OK || minimal.States != 300 || len(minimal.Rules) != len(a.Rules) || !sample.Deterministic(minimal) {
		t.Errorf("%s, error %d", sample.Show(minimal), e)
	}
}
