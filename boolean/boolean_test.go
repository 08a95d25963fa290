package boolean_test

import (
	"boskage/api"
	"boskage/boolean"
	"boskage/sample"
	"slices"
	"testing"
)

// P5.1, P5.3, P5.7
func TestUnionAndMinus(t *testing.T) {
	forPairs(func(al api.Alphabet, trees []api.Tree, a, b api.Automaton) {
		inA, inB := acceptedBy(a), acceptedBy(b)
		c, e := boolean.Union(al, a, b)
		checkLanguage(t, "Union of "+sample.Show(a)+" and "+sample.Show(b), al, c, e, trees, func(x api.Tree) bool { return inA(x) || inB(x) })
		c, e = boolean.Minus(al, a, b)
		checkLanguage(t, "Minus of "+sample.Show(a)+" and "+sample.Show(b), al, c, e, trees, func(x api.Tree) bool { return inA(x) && !inB(x) })
	})
}

// P5.1: MaxStates states and MaxRules rules, and more.
func TestUnionLimits(t *testing.T) {
	leaf := []api.Rule{sample.Rule(0, 0)}
	leaves := func(n int) api.Automaton {
		return api.Automaton{States: 1, Final: []int{0}, Rules: slices.Repeat(leaf, n)}
	}
	tests := []struct {
		what string
		a, b api.Automaton
		want api.Errno
	}{
		{"150 and 150 states", sample.Counter(150), sample.Counter(150), api.OK},
		{"150 and 151 states", sample.Counter(150), sample.Counter(151), api.ErrFull},
		{"151 and 150 states", sample.Counter(151), sample.Counter(150), api.ErrFull},
		{"300 and 0 states", sample.Counter(300), api.Automaton{}, api.OK},
		{"0 and 300 states", api.Automaton{}, sample.Counter(300), api.OK},
		{"300 and 1 states", sample.Counter(300), api.Automaton{States: 1}, api.ErrFull},
		{"1 and 300 states", api.Automaton{States: 1}, sample.Counter(300), api.ErrFull},
		{"300 and 1 states without use", api.Automaton{States: 300}, api.Automaton{States: 1}, api.ErrFull},
		{"300 states twice", sample.Counter(300), sample.Counter(300), api.ErrFull},
		{"10000 and 10000 rules", leaves(10000), leaves(10000), api.OK},
		{"10000 and 10001 rules", leaves(10000), leaves(10001), api.ErrFull},
		{"10001 and 10000 rules", leaves(10001), leaves(10000), api.ErrFull},
		{"20000 and 0 rules", leaves(20000), api.Automaton{}, api.OK},
		{"20000 and 1 rules", leaves(20000), leaves(1), api.ErrFull},
		{"20000 rules twice", leaves(20000), leaves(20000), api.ErrFull},
	}
	al := api.Alphabet{Ranks: []int{0, 1}}
	trees := []api.Tree{sample.Tree(0), sample.Chain(149, 1, 0), sample.Chain(150, 1, 0), sample.Chain(299, 1, 0), sample.Chain(300, 1, 0)}
	for _, test := range tests {
		c, e := boolean.Union(al, test.a, test.b)
		if test.want != api.OK {
			checkRefused(t, test.what, c, e, test.want)
			continue
		}
		inA, inB := acceptedBy(test.a), acceptedBy(test.b)
		checkLanguage(t, test.what, al, c, e, trees, func(x api.Tree) bool { return inA(x) || inB(x) })
	}
}

// over is a pair of automata with their alphabet.
type over struct {
	al   api.Alphabet
	a, b api.Automaton
}

// minusAtTheLimit returns automata for which Minus must not return ErrFull.
func minusAtTheLimit() []over {
	sets := api.Alphabet{Ranks: []int{0, 1, 1, 1, 1}}
	twice := sample.Counter(150)
	twice.Rules = append(twice.Rules, twice.Rules...)
	second := api.Automaton{States: 2, Final: []int{1}, Rules: []api.Rule{sample.Rule(0, 0), sample.Rule(1, 1, 0), sample.Rule(1, 0, 1)}}
	return []over{
		// 17 states for the sets and one more, 129 and 257.
		{sets, sample.Counter(17), sample.AllSets(4)},
		{sets, sample.AllSets(17), sample.AllSets(4)},
		{sets, sample.Counter(2), sample.AllSets(7)},
		{sets, api.Automaton{States: 1, Final: []int{0}, Rules: []api.Rule{sample.Rule(0, 0), sample.Rule(1, 0, 0), sample.Rule(3, 0, 0)}}, sample.AllSets(8)},
		// 300 states together, of deterministic automata.
		{chains, sample.Modulo(1, 2), sample.Modulo(2, 149)},
		{chains, sample.Modulo(1, 75), sample.Modulo(2, 3)},
		{chains, sample.Modulo(1, 1), sample.Modulo(2, 299)},
		{chains, second, sample.Counter(149)},
		{chains, twice, api.Automaton{States: 1, Final: []int{0}, Rules: []api.Rule{sample.Rule(0, 0)}}},
	}
}

// P5.3: no ErrFull as long as all pairs of states and rules fit.
func TestMinusAtTheLimit(t *testing.T) {
	for _, x := range minusAtTheLimit() {
		inA, inB := acceptedBy(x.a), acceptedBy(x.b)
		trees := sample.RandomTrees(x.al, 60, 30)
		if x.al.Ranks[1] == 1 {
			trees = append(trees, sample.Chain(149, 1, 0), sample.Chain(150, 1, 0), sample.Chain(298, 2, 0), sample.Chain(299, 2, 0), sample.Chain(300, 2, 0))
		}
		c, e := boolean.Minus(x.al, x.a, x.b)
		checkLanguage(t, "Minus of "+sample.Show(x.a)+" and "+sample.Show(x.b), x.al, c, e, trees, func(x api.Tree) bool { return inA(x) && !inB(x) })
	}
	// With rules of rank 2: 2 rules, and 99^2 + 1 that are full.
	al := api.Alphabet{Ranks: []int{0, 2}}
	for _, a := range []api.Automaton{sample.Everything(al), {States: 3, Final: []int{2}, Rules: []api.Rule{sample.Rule(0, 0), sample.Rule(1, 2, 0, 0)}}} {
		b := sample.Full(al, 98)
		c, e := boolean.Minus(al, a, b)
		checkLanguage(t, "many rules", al, c, e, sample.RandomTrees(al, 40, 40), func(x api.Tree) bool { return sample.Accepts(a, x) && !sample.Accepts(b, x) })
	}
}

// P5.3: beyond the limit, a result is either right or ErrFull.
func TestMinusBeyondTheLimit(t *testing.T) {
	sets := api.Alphabet{Ranks: []int{0, 1, 1, 1, 1}}
	for _, x := range []over{
		{sets, sample.Counter(18), sample.AllSets(4)},
		{sets, sample.AllSets(20), sample.AllSets(7)},
		{sets, sample.AllSets(2), sample.AllSets(9)},
		{chains, sample.Modulo(1, 43), sample.Modulo(2, 7)},
		{chains, sample.Modulo(1, 300), sample.Modulo(1, 300)},
		{chains, sample.Modulo(1, 300), sample.Modulo(2, 300)},
	} {
		inA, inB := acceptedBy(x.a), acceptedBy(x.b)
		trees := append(sample.RandomTrees(x.al, 60, 60), sample.Chain(300, 1, 0), sample.Chain(43, 1, 0))
		c, e := boolean.Minus(x.al, x.a, x.b)
		checkLanguageOrFull(t, "Minus of "+sample.Show(x.a)+" and "+sample.Show(x.b), x.al, c, e, trees, func(x api.Tree) bool { return inA(x) && !inB(x) })
	}
}

// P5.1, P5.2, P5.3: all refuse arguments that are not valid.
func TestBadArguments(t *testing.T) {
	sample.BadArguments(func(al api.Alphabet, a api.Automaton) {
		good := api.Automaton{}
		operations := []func(al api.Alphabet, a, b api.Automaton) (api.Automaton, api.Errno){boolean.Union, boolean.Meet, boolean.Minus}
		for _, operation := range operations {
			c, e := operation(al, a, good)
			checkRefused(t, "first", c, e, api.ErrArg)
			c, e = operation(al, good, a)
			checkRefused(t, "second", c, e, api.ErrArg)
			c, e = operation(al, a, a)
			checkRefused(t, "both", c, e, api.ErrArg)
		}
	})
}

// P5.1, P5.3: ErrArg comes before ErrFull.
func TestBadArgumentsThatAreFull(t *testing.T) {
	sets := api.Alphabet{Ranks: []int{0, 1, 1, 1, 1}}
	large, bad := sample.AllSets(300), api.Automaton{States: 300, Final: []int{300}}
	c, e := boolean.Minus(sets, bad, large)
	checkRefused(t, "Minus", c, e, api.ErrArg)
	c, e = boolean.Minus(sets, large, bad)
	checkRefused(t, "Minus", c, e, api.ErrArg)
	c, e = boolean.Union(sets, bad, large)
	checkRefused(t, "Union", c, e, api.ErrArg)
	c, e = boolean.Union(sets, large, bad)
	checkRefused(t, "Union", c, e, api.ErrArg)
	c, e = boolean.Union(sets, api.Automaton{States: 1 << 62}, api.Automaton{States: 1 << 62})
	checkRefused(t, "Union", c, e, api.ErrArg)
}

// must returns a result for which no error is expected.
func must(t *testing.T, a api.Automaton, e api.Errno) api.Automaton {
	t.Helper()
	if e != api.OK {
		t.Errorf("error %d", e)
	}
	return a
}

// P5.8
func TestLaws(t *testing.T) {
	forPairs(func(al api.Alphabet, trees []api.Tree, a, b api.Automaton) {
		if a.States > 3 || b.States > 3 {
			return
		}
		whole := sample.Everything(al)
		c, e := boolean.Minus(al, whole, a)
		c, e = boolean.Minus(al, whole, must(t, c, e))
		checkLanguage(t, "Minus twice", al, c, e, trees, acceptedBy(a))
		third := sample.Automata(al)[len(a.Rules)]
		c, e = boolean.Union(al, b, third)
		c, e = boolean.Meet(al, a, must(t, c, e))
		c1, e1 := boolean.Meet(al, a, b)
		c2, e2 := boolean.Meet(al, a, third)
		d, e3 := boolean.Union(al, must(t, c1, e1), must(t, c2, e2))
		checkLanguage(t, "Meet over Union", al, c, e, trees, acceptedBy(must(t, d, e3)))
		c, e = boolean.Meet(al, b, third)
		c, e = boolean.Union(al, a, must(t, c, e))
		c1, e1 = boolean.Union(al, a, b)
		c2, e2 = boolean.Union(al, a, third)
		d, e3 = boolean.Meet(al, must(t, c1, e1), must(t, c2, e2))
		checkLanguage(t, "Union over Meet", al, c, e, trees, acceptedBy(must(t, d, e3)))
	})
}
