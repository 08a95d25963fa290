package deter_test

import (
	"boskage/api"
	"boskage/deter"
	"boskage/sample"
	"slices"
	"testing"
)

// checkBoth checks Det and Complement of an automaton for which they are
// possible.
func checkBoth(t *testing.T, al api.Alphabet, a api.Automaton, trees []api.Tree) {
	t.Helper()
	b, e := deter.Det(al, a)
	checkDeterministic(t, "Det", al, b, e)
	checkLanguage(t, "Det", trees, a, b, true)
	c, e := deter.Complement(al, a)
	checkDeterministic(t, "Complement", al, c, e)
	checkComplete(t, "Complement", al, c)
	checkLanguage(t, "Complement", trees, a, c, false)
}

// P4.1, P4.3, P4.5, P4.6
func TestDetAndComplement(t *testing.T) {
	for _, al := range sample.Alphabets() {
		trees := sample.Trees(al)
		for _, a := range append(sample.Automata(al), api.Automaton{}, api.Automaton{States: 3, Final: []int{0, 1, 2}}) {
			checkBoth(t, al, a, trees)
		}
	}
}

// P4.1, P4.3: the chapter's example.
func TestDetExample(t *testing.T) {
	checkBoth(t, withBAlphabet, sample.WithB().A, sample.RandomTrees(withBAlphabet, 50, 60))
}

// P4.1, P4.3: no ErrFull as long as all sets fit.
func TestDetAndComplementAtTheLimit(t *testing.T) {
	for _, x := range sample.Largest() {
		checkBoth(t, x.Al, x.A, sample.RandomTrees(x.Al, 40, 30))
	}
}

// P4.1, P4.3: only useful states count.
func TestDetAndComplementWithUselessStates(t *testing.T) {
	al := api.Alphabet{Ranks: []int{0, 1, 1, 1, 1, 0, 1}}
	trees := sample.RandomTrees(al, 200, 12)
	a := sample.AllSets(280)
	a.States = 300
	a.Rules = append(a.Rules,
		sample.Rule(5, 290), sample.Rule(5, 291), sample.Rule(6, 290, 290), sample.Rule(6, 292, 291), sample.Rule(6, 292, 290),
		sample.Rule(1, 290, 299), sample.Rule(2, 290, 298), sample.Rule(6, 294, 292),
	)
	for _, final := range [][]int{{}, {292}, {291}, {290, 291}, {298}} {
		a.Final = final
		checkBoth(t, al, a, trees)
	}
}

// P4.1, P4.3: beyond the limit, a result is either right or ErrFull.
func TestDetAndComplementBeyondTheLimit(t *testing.T) {
	al := api.Alphabet{Ranks: []int{0, 1, 1, 1, 1, 2}}
	trees := sample.RandomTrees(al, 20, 20)
	for _, states := range []int{8, 9, 20, 300} {
		a := sample.AllSets(states)
		if states < 20 {
			a = sample.Unite(a, 5, 2)
		}
		b, e := deter.Det(al, a)
		if e == api.ErrFull {
			checkRefused(t, "Det", b, e, api.ErrFull)
		} else {
			checkDeterministic(t, "Det", al, b, e)
			checkLanguage(t, "Det", trees, a, b, true)
		}
		c, e := deter.Complement(al, a)
		if e == api.ErrFull {
			checkRefused(t, "Complement", c, e, api.ErrFull)
		} else {
			checkDeterministic(t, "Complement", al, c, e)
			checkLanguage(t, "Complement", trees, a, c, false)
		}
	}
}

// P4.1: deterministic automata are never too large.
func TestDetOfDeterministic(t *testing.T) {
	chains := api.Alphabet{Ranks: []int{0, 1}}
	b, e := deter.Det(chains, sample.Counter(300))
	checkDeterministic(t, "300 states", chains, b, e)
	for n := 1; n <= 300; n++ {
		x := sample.Chain(n, 1, 0)
		if sample.Accepts(b, x) != (n == 300) {
			t.Errorf("300 states: wrong for %d nodes", n)
		}
	}
	al := api.Alphabet{Ranks: []int{0, 2, 0}}
	a := sample.Full(al, 141)
	b, e = deter.Det(al, a)
	checkDeterministic(t, "many rules", al, b, e)
	checkLanguage(t, "Det", sample.RandomTrees(al, 20, 20), a, b, true)
}

// P4.3: deterministic automata whose number of states plus 1 fits.
func TestComplementOfDeterministic(t *testing.T) {
	chains := api.Alphabet{Ranks: []int{0, 1}}
	c, e := deter.Complement(chains, sample.Counter(299))
	checkDeterministic(t, "299 states", chains, c, e)
	checkComplete(t, "299 states", chains, c)
	for n := 1; n <= 300; n++ {
		if sample.Accepts(c, sample.Chain(n, 1, 0)) != (n != 299) {
			t.Errorf("299 states: wrong for %d nodes", n)
		}
	}
	for _, states := range []int{1, 2, 139, 140} {
		al := api.Alphabet{Ranks: []int{0, 2, 0}}
		a := sample.Full(al, states)
		c, e := deter.Complement(al, a)
		checkDeterministic(t, "many rules", al, c, e)
		checkComplete(t, "many rules", al, c)
		checkLanguage(t, "Complement", sample.RandomTrees(al, 20, 20), a, c, false)
	}
	twos := api.Alphabet{Ranks: []int{2, 2}}
	a := sample.Full(twos, 99)
	a.Rules = a.Rules[1:]
	c, e = deter.Complement(twos, a)
	checkDeterministic(t, "20000 rules", twos, c, e)
	checkComplete(t, "20000 rules", twos, c)
}

// P4.3: beyond the limit, a result is either right or ErrFull.
func TestComplementOfLargeDeterministic(t *testing.T) {
	chains := api.Alphabet{Ranks: []int{0, 1}}
	a := sample.Counter(300)
	for range 2 {
		c, e := deter.Complement(chains, a)
		if e == api.ErrFull {
			checkRefused(t, "Complement", c, e, api.ErrFull)
		} else {
			checkDeterministic(t, "Complement", chains, c, e)
			checkComplete(t, "Complement", chains, c)
			checkLanguage(t, "Complement", []api.Tree{sample.Chain(300, 1, 0), sample.Chain(299, 1, 0), sample.Tree(0)}, a, c, false)
		}
		a.Rules = append(a.Rules, sample.Rule(1, 0, 299))
	}
}

// P4.5: Complement twice is the same language.
func TestComplementTwice(t *testing.T) {
	for _, al := range sample.Alphabets() {
		trees := sample.Trees(al)
		for i, a := range sample.Automata(al) {
			if i%4 > 0 {
				continue
			}
			b, e := deter.Complement(al, a)
			checkDeterministic(t, "Complement", al, b, e)
			c, e := deter.Complement(al, b)
			checkDeterministic(t, "Complement twice", al, c, e)
			checkLanguage(t, "Complement twice", trees, a, c, true)
		}
	}
}

// P4.1 to P4.4: all refuse arguments that are not valid.
func TestBadArguments(t *testing.T) {
	sample.BadArguments(func(al api.Alphabet, a api.Automaton) {
		b, e := deter.Det(al, a)
		checkRefused(t, "Det", b, e, api.ErrArg)
		b, e = deter.Fill(al, a)
		checkRefused(t, "Fill", b, e, api.ErrArg)
		b, e = deter.Complement(al, a)
		checkRefused(t, "Complement", b, e, api.ErrArg)
		b, sets, e := deter.Subset(al, a)
		checkRefused(t, "Subset", b, e, api.ErrArg)
		if len(sets) > 0 {
			t.Errorf("Subset: %v beside an error", sets)
		}
	})
}

// P4.1, P4.2: ErrArg comes before ErrKind.
func TestBadArgumentsThatAreNotDeterministic(t *testing.T) {
	twice := []api.Rule{sample.Rule(0, 0), sample.Rule(0, 0)}
	b, e := deter.Fill(withBAlphabet, api.Automaton{States: 1, Final: []int{1}, Rules: twice})
	checkRefused(t, "Fill", b, e, api.ErrArg)
	b, e = deter.Fill(api.Alphabet{Ranks: []int{0, 4}}, api.Automaton{States: 1, Rules: twice})
	checkRefused(t, "Fill", b, e, api.ErrArg)
	b, e = deter.Fill(withBAlphabet, api.Automaton{States: 1, Rules: slices.Clone(twice)})
	checkRefused(t, "Fill", b, e, api.ErrKind)
}
