package boolean_test

import (
	"boskage/api"
	"boskage/boolean"
	"boskage/sample"
	"slices"
	"testing"
)

// both returns the trees that a and b accept, by their definition.
func both(a, b api.Automaton) func(api.Tree) bool {
	return func(x api.Tree) bool { return sample.Accepts(a, x) && sample.Accepts(b, x) }
}

// P5.2, P5.7
func TestMeet(t *testing.T) {
	forPairs(func(al api.Alphabet, trees []api.Tree, a, b api.Automaton) {
		c, e := boolean.Meet(al, a, b)
		checkLanguage(t, "Meet of "+sample.Show(a)+" and "+sample.Show(b), al, c, e, trees, both(a, b))
		c, e = boolean.Meet(al, a, a)
		checkLanguage(t, "Meet of "+sample.Show(a)+" with itself", al, c, e, trees, acceptedBy(a))
	})
}

// P5.2: Meet of deterministic automata is deterministic.
func TestMeetOfDeterministic(t *testing.T) {
	forPairs(func(al api.Alphabet, trees []api.Tree, a, b api.Automaton) {
		a, b = sample.DeterministicPart(a), sample.DeterministicPart(b)
		c, e := boolean.Meet(al, a, b)
		checkLanguage(t, "Meet of "+sample.Show(a)+" and "+sample.Show(b), al, c, e, trees, both(a, b))
		if !sample.Deterministic(c) {
			t.Errorf("Meet of %s and %s: %s is not deterministic", sample.Show(a), sample.Show(b), sample.Show(c))
		}
	})
	for states := 1; states <= 5; states++ {
		al := api.Alphabet{Ranks: []int{0, 1, 2, 0}}
		a, b := sample.Full(al, states), sample.Full(al, 7-states)
		c, e := boolean.Meet(al, a, b)
		checkLanguage(t, "full", al, c, e, sample.RandomTrees(al, 50, 20), both(a, b))
		if !sample.Deterministic(c) {
			t.Errorf("full: %s is not deterministic", sample.Show(c))
		}
	}
}

// P5.2: larger trees, and automata with more states.
func TestMeetLarger(t *testing.T) {
	var s sample.Source
	for _, ranks := range [][]int{{0, 0, 1, 2}, {0, 3}, {2, 1, 0, 3, 0}} {
		al := api.Alphabet{Ranks: ranks}
		trees := sample.RandomTrees(al, 30, 40)
		for range 20 {
			a, b := sample.Automaton(&s, al, 1+s.Below(15), 5+s.Below(60)), sample.Automaton(&s, al, 1+s.Below(15), 5+s.Below(60))
			c, e := boolean.Meet(al, a, b)
			checkLanguage(t, "Meet of "+sample.Show(a)+" and "+sample.Show(b), al, c, e, trees, both(a, b))
		}
	}
}

// P5.2: no ErrFull as long as all pairs of states and all pairs of rules fit.
func TestMeetAtTheLimit(t *testing.T) {
	for _, numbers := range [][]int{{300, 1}, {1, 300}, {20, 15}, {17, 17}, {2, 150}, {150, 2}, {100, 3}} {
		g, h := numbers[0], numbers[1]
		c, e := boolean.Meet(chains, sample.Modulo(1, g), sample.Modulo(2, h))
		checkLanguage(t, "states", chains, c, e, []api.Tree{chain(g-1, h-1)}, func(api.Tree) bool { return true })
		if c.States != g*h {
			t.Errorf("modulo %d and %d: %d states", g, h, c.States)
		}
		for i := range min(g, 20) {
			for j := range min(h, 20) {
				if sample.Accepts(c, chain(i, j)) != (i == g-1 && j == h-1) {
					t.Errorf("modulo %d and %d: wrong for %d and %d", g, h, i, j)
				}
			}
		}
	}
	al := api.Alphabet{Ranks: []int{0, 2}}
	for _, numbers := range [][]int{{14, 100, 21, 200}, {17, 141, 17, 141}, {1, 2, 100, 10000}, {300, 10000, 1, 2}, {10, 400, 5, 50}} {
		a, b := manyRules(numbers[0], numbers[1]), manyRules(numbers[2], numbers[3])
		c, e := boolean.Meet(al, a, b)
		checkLanguage(t, "rules", al, c, e, sample.RandomTrees(al, 10, 20), both(a, b))
	}
}

// P5.2: no pair of rules counts twice, even if a pair of states occurs at all of
// its positions.
func TestMeetOfEqualStates(t *testing.T) {
	al := api.Alphabet{Ranks: []int{0, 3}}
	a := manyRules(17, 17)
	for i := range 124 {
		a.Rules = append(a.Rules, sample.Rule(1, i/17, i%17, i%17, i%17))
	}
	c, e := boolean.Meet(al, a, a)
	checkLanguage(t, "124 rules", al, c, e, sample.RandomTrees(al, 10, 20), acceptedBy(a))
	if want := 17*17 + 124*124; len(c.Rules) != want {
		t.Errorf("124 rules: %s instead of %d", sample.Show(c), want)
	}
}

// P5.2: identical rules count as several ones for the limit only.
func TestMeetOfIdenticalRules(t *testing.T) {
	al := api.Alphabet{Ranks: []int{0, 1}}
	trees := []api.Tree{sample.Tree(0), sample.Chain(2, 1, 0), sample.Chain(3, 1, 0)}
	leaf := api.Automaton{States: 1, Final: []int{0}, Rules: []api.Rule{sample.Rule(0, 0)}}
	many := api.Automaton{States: 1, Final: []int{0}, Rules: slices.Repeat(leaf.Rules, 10000)}
	many.Rules = append(many.Rules, slices.Repeat([]api.Rule{sample.Rule(1, 0, 0)}, 10000)...)
	c, e := boolean.Meet(al, many, leaf)
	checkLanguage(t, "first", al, c, e, trees, acceptedBy(leaf))
	c, e = boolean.Meet(al, leaf, many)
	checkLanguage(t, "second", al, c, e, trees, acceptedBy(leaf))
	c, e = boolean.Meet(al, many, many)
	checkLanguageOrFull(t, "both", al, c, e, trees, acceptedBy(many))
}

// P5.2: beyond the limit, a result is either right or ErrFull.
func TestMeetBeyondTheLimit(t *testing.T) {
	for _, numbers := range [][]int{{7, 43}, {43, 7}, {300, 300}, {301 - 1, 2}, {16, 19}} {
		g, h := numbers[0], numbers[1]
		a, b := sample.Modulo(1, g), sample.Modulo(2, h)
		c, e := boolean.Meet(chains, a, b)
		checkLanguageOrFull(t, "states", chains, c, e, []api.Tree{chain(0, 0), chain(6, 42), chain(42, 6), chain(15, 18)}, both(a, b))
	}
	al := api.Alphabet{Ranks: []int{0, 2}}
	trees := sample.RandomTrees(al, 10, 20)
	for _, numbers := range [][]int{{17, 142, 17, 142}, {1, 2, 141, 19882}, {17, 170, 17, 170}, {17, 300, 17, 300}, {100, 20000, 100, 20000}, {17, 5000, 3, 30}} {
		a, b := manyRules(numbers[0], numbers[1]), manyRules(numbers[2], numbers[3])
		c, e := boolean.Meet(al, a, b)
		checkLanguageOrFull(t, "rules", al, c, e, trees, both(a, b))
	}
	threes := api.Alphabet{Ranks: []int{0, 3}}
	a := sample.Full(threes, 27)
	c, e := boolean.Meet(threes, a, a)
	checkLanguageOrFull(t, "rank 3", threes, c, e, sample.RandomTrees(threes, 10, 20), acceptedBy(a))
}

// P5.2: only useful states and reachable pairs matter.
func TestMeetOfAlmostEmpty(t *testing.T) {
	al := api.Alphabet{Ranks: []int{0, 1}}
	c, e := boolean.Meet(al, sample.Counter(300), sample.Counter(300))
	checkLanguage(t, "300 states", al, c, e, []api.Tree{sample.Chain(299, 1, 0), sample.Chain(300, 1, 0)}, acceptedBy(sample.Counter(300)))
	c, e = boolean.Meet(al, sample.Counter(300), sample.Counter(299))
	checkLanguage(t, "no common tree", al, c, e, []api.Tree{sample.Chain(299, 1, 0), sample.Chain(300, 1, 0)}, func(api.Tree) bool { return false })
	if c.States > 0 {
		t.Errorf("no common tree: %s", sample.Show(c))
	}
	c, e = boolean.Meet(al, sample.Counter(300), api.Automaton{States: 300, Final: []int{299}})
	checkLanguage(t, "no rules", al, c, e, []api.Tree{sample.Chain(300, 1, 0)}, func(api.Tree) bool { return false })
}
