package boolean_test

import (
	"boskage/api"
	"boskage/boolean"
	"boskage/sample"
	"slices"
	"testing"
)

// under returns the trees that Under is to accept, by their definition.
func under(a api.Automaton, s int) func(api.Tree) bool {
	return func(x api.Tree) bool {
		return has(x, func(y api.Tree) bool { return y.Sym == s && sample.Accepts(a, y) })
	}
}

// P5.6, P5.7
func TestUnder(t *testing.T) {
	for _, al := range sample.Alphabets() {
		trees := sample.Trees(al)
		for i, a := range append(sample.Automata(al), api.Automaton{}, sample.Everything(al), sample.Everything(al)) {
			for s := range al.Ranks {
				if len(al.Ranks) > 2 && i < 90 && (i+s)%2 > 0 {
					continue
				}
				b, e := boolean.Under(al, a, s)
				checkLanguage(t, "Under of "+sample.Show(a), al, b, e, trees, under(a, s))
			}
		}
	}
}

// P5.6: the chapter's example, with other symbols.
func TestUnderExample(t *testing.T) {
	trees := sample.RandomTrees(small, 100, 20)
	for s := range small.Ranks {
		b, e := boolean.Under(small, sample.Everything(small), s)
		checkLanguage(t, "Under of all trees", small, b, e, trees, func(x api.Tree) bool {
			return has(x, func(y api.Tree) bool { return y.Sym == s })
		})
	}
}

// P5.6: an automaton that accepts no tree has no states of use.
func TestUnderOfEmpty(t *testing.T) {
	for s := range small.Ranks {
		b, e := boolean.Under(small, api.Automaton{States: 2, Final: []int{0}, Rules: []api.Rule{sample.Rule(0, 1)}}, s)
		checkLanguage(t, "Under of the empty language", small, b, e, sample.Trees(small), func(api.Tree) bool { return false })
		if b.States > 0 {
			t.Errorf("Under of the empty language: %s", sample.Show(b))
		}
	}
}

// P5.6: MaxStates states and MaxRules rules.
func TestUnderLimits(t *testing.T) {
	al := api.Alphabet{Ranks: []int{0, 1}}
	a := sample.Counter(298)
	b, e := boolean.Under(al, a, 1)
	checkLanguage(t, "298 states", al, b, e, []api.Tree{sample.Chain(297, 1, 0), sample.Chain(298, 1, 0), sample.Chain(299, 1, 0), sample.Chain(300, 1, 0)}, under(a, 1))
	two := api.Alphabet{Ranks: []int{0, 2}}
	twelve := api.Alphabet{Ranks: append([]int{0}, slices.Repeat([]int{2, 3}, 6)[:11]...)}
	for _, x := range []struct {
		al    api.Alphabet
		rules int
	}{{two, 10000 - 3*2 - 1}, {twelve, 10000 - 3*12 - 1}} {
		trees := sample.RandomTrees(x.al, 10, 8)
		for _, states := range []int{1, 2, 99, 298} {
			a := manyRules(states, x.rules)
			for s := range two.Ranks {
				b, e := boolean.Under(x.al, a, s)
				checkLanguage(t, "many rules", x.al, b, e, trees, under(a, s))
				half := api.Automaton{States: a.States, Final: a.Final[states/2:], Rules: a.Rules}
				b, e = boolean.Under(x.al, half, s)
				checkLanguage(t, "fewer final states", x.al, b, e, trees, under(half, s))
			}
		}
	}
}

// P5.6: beyond the limit, a result is either right or ErrFull.
func TestUnderBeyondTheLimit(t *testing.T) {
	al := api.Alphabet{Ranks: []int{0, 1}}
	for _, states := range []int{299, 300} {
		a := sample.Counter(states)
		b, e := boolean.Under(al, a, 1)
		checkLanguageOrFull(t, "many states", al, b, e, []api.Tree{sample.Chain(298, 1, 0), sample.Chain(299, 1, 0), sample.Chain(300, 1, 0)}, under(a, 1))
	}
	two := api.Alphabet{Ranks: []int{0, 2}}
	trees := sample.RandomTrees(two, 10, 20)
	for _, rules := range []int{9994, 10100, 20000} {
		a := manyRules(100, rules)
		b, e := boolean.Under(two, a, 1)
		checkLanguageOrFull(t, "many rules", two, b, e, trees, under(a, 1))
	}
}

// P5.6: symbols out of range, arguments that are not valid, and the order of
// errors.
func TestUnderErrors(t *testing.T) {
	for _, al := range sample.Alphabets() {
		for _, s := range []int{-1, -1 << 63, len(al.Ranks), 12, 1<<63 - 1} {
			for _, a := range []api.Automaton{{}, sample.Everything(al), {States: 300}} {
				b, e := boolean.Under(al, a, s)
				checkRefused(t, "Under", b, e, api.ErrRange)
			}
		}
	}
	sample.BadArguments(func(al api.Alphabet, a api.Automaton) {
		for _, s := range []int{-1, 0, 100} {
			b, e := boolean.Under(al, a, s)
			checkRefused(t, "Under", b, e, api.ErrArg)
		}
	})
	b, e := boolean.Under(api.Alphabet{Ranks: []int{0, 1}}, sample.Counter(300), 2)
	checkRefused(t, "300 states", b, e, api.ErrRange)
}
