package mini_test

import (
	"boskage/api"
	"boskage/auto"
	"boskage/deter"
	"boskage/mini"
	"boskage/sample"
	"boskage/tree"
	"slices"
	"testing"
)

// P7.1
func TestMinimal(t *testing.T) {
	for _, al := range sample.Alphabets() {
		trees := sample.Trees(al)
		for _, a := range append(sample.Automata(al), api.Automaton{}, api.Automaton{States: 3, Final: []int{0, 1, 2}}, sample.Everything(al)) {
			b := minimal(t, al, a, trees)
			checkAutomaton(t, "Minimal of "+sample.Show(a), b, api.OK, definition(al, a))
		}
	}
}

// P7.1: automata with more states, most of which have many classes.
func TestMinimalLarger(t *testing.T) {
	var s sample.Source
	for _, ranks := range [][]int{{0, 0, 1, 1}, {2, 0, 0}, {1, 0, 0, 2}, {1, 1, 0}} {
		al := api.Alphabet{Ranks: ranks}
		for range 60 {
			a := sample.Automaton(&s, al, 4+s.Below(5), 10+s.Below(20))
			if subsets, _, e := deter.Subset(al, a); e == api.OK && subsets.States <= 20 {
				b, e := mini.Minimal(al, a)
				checkAutomaton(t, "Minimal of "+sample.Show(a), b, e, definition(al, a))
			}
		}
	}
}

// P7.1: the chapter's examples.
func TestMinimalExamples(t *testing.T) {
	al := api.Alphabet{Ranks: []int{0, 2}}
	all := api.Automaton{States: 1, Final: []int{0}, Rules: []api.Rule{sample.Rule(0, 0), sample.Rule(1, 0, 0, 0)}}
	several := api.Automaton{States: 3, Final: []int{0, 1}, Rules: []api.Rule{
		sample.Rule(0, 1), sample.Rule(1, 0, 1, 1), sample.Rule(1, 0, 0, 1), sample.Rule(1, 0, 1, 0), sample.Rule(1, 1, 0, 0), sample.Rule(1, 2, 1, 0),
	}}
	for _, a := range []api.Automaton{all, several} {
		b, e := mini.Minimal(al, a)
		checkAutomaton(t, "all trees", b, e, all)
	}
	x := sample.WithB()
	b, e := mini.Minimal(x.Al, x.A)
	checkAutomaton(t, "some leaf b", b, e, api.Automaton{States: 2, Final: []int{1}, Rules: []api.Rule{
		sample.Rule(0, 0), sample.Rule(1, 1), sample.Rule(2, 0, 0, 0), sample.Rule(2, 1, 0, 1), sample.Rule(2, 1, 1, 0), sample.Rule(2, 1, 1, 1),
	}})
}

// P7.1: a language without trees.
func TestMinimalOfEmpty(t *testing.T) {
	al := api.Alphabet{Ranks: []int{0, 1}}
	for _, a := range []api.Automaton{
		{States: 300, Rules: sample.Counter(300).Rules},
		{States: 2, Final: []int{1}, Rules: []api.Rule{sample.Rule(0, 0), sample.Rule(1, 0, 0)}},
		{States: 1, Final: []int{0}, Rules: []api.Rule{sample.Rule(1, 0, 0)}},
		{},
	} {
		b, e := mini.Minimal(al, a)
		checkAutomaton(t, "no trees", b, e, api.Automaton{})
	}
}

// P7.1: rounds decide about numbers before symbols and lists do.
func TestMinimalRounds(t *testing.T) {
	// The symbols 0 (g) and 1 (h) have rank 1, 2 (f) has rank 2, 3 and 4 have rank 0.
	al := api.Alphabet{Ranks: []int{1, 1, 2, 0, 0}}
	a := api.Automaton{States: 8, Final: []int{0, 5}, Rules: []api.Rule{
		sample.Rule(4, 0), sample.Rule(3, 1),
		sample.Rule(0, 2, 0), sample.Rule(0, 3, 1), sample.Rule(1, 4, 1), sample.Rule(0, 5, 3), sample.Rule(2, 6, 0, 1), sample.Rule(2, 6, 0, 0),
		sample.Rule(2, 7, 1, 3), sample.Rule(2, 0, 7, 7), sample.Rule(2, 5, 2, 4), sample.Rule(2, 0, 6, 4),
	}}
	b, e := mini.Minimal(al, a)
	checkAutomaton(t, "rounds", b, e, definition(al, a))
	checkAutomaton(t, "rounds", b, e, api.Automaton{States: 8, Final: []int{1, 6}, Rules: []api.Rule{
		sample.Rule(0, 2, 0), sample.Rule(0, 3, 1), sample.Rule(0, 6, 2), sample.Rule(1, 4, 0),
		sample.Rule(2, 7, 0, 2), sample.Rule(2, 5, 1, 0), sample.Rule(2, 5, 1, 1), sample.Rule(2, 6, 3, 4), sample.Rule(2, 1, 5, 4), sample.Rule(2, 1, 7, 7),
		sample.Rule(3, 0), sample.Rule(4, 1),
	}})
}

// P7.1: two states that lead to the same classes, but with other partners, are
// not equivalent. Neither are those of which one leads nowhere.
func TestMinimalOfCrossedPartners(t *testing.T) {
	al := api.Alphabet{Ranks: []int{0, 0, 0, 0, 2, 1}}
	crossed := api.Automaton{States: 6, Final: []int{5}, Rules: []api.Rule{
		sample.Rule(0, 0), sample.Rule(1, 1), sample.Rule(2, 2), sample.Rule(3, 3),
		sample.Rule(4, 4, 0, 2), sample.Rule(4, 5, 0, 3), sample.Rule(4, 5, 1, 2), sample.Rule(4, 4, 1, 3), sample.Rule(5, 5, 4),
	}}
	without := sample.Copy(crossed)
	without.Rules = slices.DeleteFunc(without.Rules, func(r api.Rule) bool { return r.To == 4 || r.Sym == 5 })
	without = api.Automaton{States: 6, Final: []int{5}, Rules: without.Rules}
	parallel := sample.Copy(crossed)
	parallel.Rules[6].To, parallel.Rules[7].To = 4, 5
	for _, x := range []struct {
		a      api.Automaton
		states int
	}{{crossed, 6}, {without, 5}, {parallel, 5}} {
		b, e := mini.Minimal(al, x.a)
		checkAutomaton(t, sample.Show(x.a), b, e, definition(al, x.a))
		if b.States != x.states {
			t.Errorf("%s: %d states instead of %d", sample.Show(x.a), b.States, x.states)
		}
	}
}

// P7.1: no ErrFull for deterministic automata, with MaxStates states or almost
// MaxRules rules.
func TestMinimalOfDeterministic(t *testing.T) {
	chains := api.Alphabet{Ranks: []int{0, 1}}
	b, e := mini.Minimal(chains, sample.Counter(300))
	checkAutomaton(t, "300 states", b, e, sample.Counter(300))
	cycle := api.Alphabet{Ranks: []int{0, 1, 1}}
	for _, n := range []int{1, 2, 299, 300} {
		b, e = mini.Minimal(cycle, sample.Modulo(1, n))
		checkAutomaton(t, "modulo", b, e, sorted(sample.Modulo(1, n)))
	}
	equal := sample.Modulo(2, 300)
	for state := range 299 {
		equal.Final = append(equal.Final, state)
	}
	slices.Sort(equal.Final)
	b, e = mini.Minimal(cycle, equal)
	checkAutomaton(t, "300 equivalent states", b, e, sample.Everything(cycle))
	for _, x := range []struct {
		ranks  []int
		states int
	}{{[]int{0, 2}, 141}, {[]int{0, 0, 2}, 140}, {[]int{0, 3}, 27}, {[]int{0, 1, 2, 3}, 26}} {
		al := api.Alphabet{Ranks: x.ranks}
		a := sample.Full(al, x.states)
		b := minimal(t, al, a, sample.RandomTrees(al, 20, 20))
		if b.States > x.states || b.States < 2 {
			t.Errorf("%s: %s", sample.Show(a), sample.Show(b))
		}
		again, e := mini.Minimal(al, b)
		checkAutomaton(t, "twice", again, e, b)
	}
}

// sorted returns a with its rules sorted.
func sorted(a api.Automaton) api.Automaton {
	slices.SortFunc(a.Rules, func(x, y api.Rule) int {
		return slices.Compare(append([]int{x.Sym}, x.From...), append([]int{y.Sym}, y.From...))
	})
	return a
}

// P7.1: no ErrFull as long as all sets of useful states fit. These sets are all
// of different classes.
func TestMinimalAtTheLimit(t *testing.T) {
	for _, x := range sample.Largest() {
		trees := sample.RandomTrees(x.Al, 40, 30)
		b := minimal(t, x.Al, x.A, trees)
		if want := 1<<x.A.States - 1; b.States != want {
			t.Errorf("%s: %s instead of %d states", sample.Show(x.A), sample.Show(b), want)
		}
		useless := sample.Copy(x.A)
		useless.States = 300
		for state := 200; state < 290; state++ {
			useless.Rules = append(useless.Rules, sample.Rule(1, state, 0), sample.Rule(1, state+1, state), sample.Rule(1, 0, 299))
		}
		c, e := mini.Minimal(x.Al, useless)
		checkAutomaton(t, "with useless states", c, e, b)
	}
}

// P7.1: beyond the limit, a result is either right or ErrFull.
func TestMinimalBeyondTheLimit(t *testing.T) {
	al := api.Alphabet{Ranks: []int{0, 1, 1, 1, 1, 2}}
	trees := sample.RandomTrees(al, 20, 20)
	for _, states := range []int{8, 9, 20, 300} {
		a := sample.AllSets(states)
		if states < 20 {
			a = sample.Unite(a, 5, 2)
		}
		if b, e := mini.Minimal(al, a); e != api.OK {
			checkRefused(t, "Minimal", b, e, api.ErrFull)
		} else {
			minimal(t, al, a, trees)
		}
		same, e := mini.Same(al, a, a)
		if !(e == api.OK && same || e == api.ErrFull && !same) {
			t.Errorf("Same: %t, error %d", same, e)
		}
		class, e := mini.Class(al, a, sample.Tree(0))
		if !(e == api.OK && class == 0 || e == api.ErrFull && class == 0) {
			t.Errorf("Class: %d, error %d", class, e)
		}
	}
}

// P7.2, P7.5: Same compares languages, and minimal automata do.
func TestSame(t *testing.T) {
	for _, al := range sample.Alphabets() {
		trees := sample.Trees(al)
		automata := append(sample.Automata(al), api.Automaton{}, sample.Everything(al))
		var definitions []api.Automaton
		for _, a := range automata {
			definitions = append(definitions, definition(al, a))
		}
		for i, a := range automata {
			for _, j := range []int{i, (i + 1) % len(automata), (i * 7) % len(automata), (i + 50) % len(automata)} {
				b := automata[j]
				want := sample.Equal(definitions[i], definitions[j])
				checkSame(t, al, a, b, want)
				if want && slices.ContainsFunc(trees, func(x api.Tree) bool { return sample.Accepts(a, x) != sample.Accepts(b, x) }) {
					t.Errorf("%s and %s have the same minimal automaton", sample.Show(a), sample.Show(b))
				}
			}
		}
	}
}

// variants returns automata with the language of a.
func variants(t *testing.T, s *sample.Source, al api.Alphabet, a api.Automaton) []api.Automaton {
	t.Helper()
	det, e1 := deter.Det(al, a)
	full, e2 := deter.Fill(al, det)
	trimmed, e3 := auto.Trim(al, a)
	if e1 != api.OK || e2 != api.OK || e3 != api.OK {
		t.Errorf("%s: errors %d, %d and %d", sample.Show(a), e1, e2, e3)
	}
	more := sample.Copy(a)
	more.States += 2
	more.Rules = append(more.Rules, more.Rules...)
	for sym, rank := range al.Ranks {
		more.Rules = append(more.Rules, sample.Rule(sym, a.States, make([]int, rank)...))
		if rank > 0 {
			more.Rules = append(more.Rules, sample.Rule(sym, 0, slices.Repeat([]int{a.States + 1}, rank)...))
		}
	}
	list := []api.Automaton{det, full, trimmed, more, renumbered(s, a), renumbered(s, det), twofold(s, det), renumbered(s, twofold(s, full))}
	if a.States <= 2 {
		list = append(list, twofold(s, a))
	}
	return list
}

// P7.2, P7.5: automata of all kinds with one language have one minimal
// automaton.
func TestUnique(t *testing.T) {
	var s sample.Source
	i := 0
	forAutomata(func(al api.Alphabet, a api.Automaton) {
		i++
		if i%3 > 0 && len(al.Ranks) > 3 {
			return
		}
		want, e := mini.Minimal(al, a)
		for _, b := range variants(t, &s, al, a) {
			got, e2 := mini.Minimal(al, b)
			checkAutomaton(t, "Minimal of "+sample.Show(b), got, e2, want)
			checkSame(t, al, a, b, true)
			checkSame(t, al, b, a, true)
		}
		if e != api.OK {
			t.Errorf("%s: error %d", sample.Show(a), e)
		}
	})
}

// P7.2, P7.5: minimal automata of large automata that differ in one tree only.
func TestSameLarge(t *testing.T) {
	var s sample.Source
	al := api.Alphabet{Ranks: []int{0, 1}}
	a := sample.Counter(300)
	for range 5 {
		checkSame(t, al, a, renumbered(&s, a), true)
	}
	b := sample.Copy(a)
	b.Final = []int{0, 299}
	checkSame(t, al, a, b, false)
	b = sample.Copy(a)
	b.Rules = append(b.Rules, sample.Rule(1, 0, 299))
	checkSame(t, al, a, b, false)
	checkSame(t, al, a, sample.Counter(299), false)
	full := api.Alphabet{Ranks: []int{0, 2, 1}}
	a = sample.Full(full, 60)
	checkSame(t, full, a, renumbered(&s, a), true)
	checkSame(t, full, a, twofold(&s, a), true)
	checkSame(t, full, a, sample.Full(full, 59), false)
}

// P7.3
func TestClass(t *testing.T) {
	for _, al := range sample.Alphabets() {
		trees := sample.Trees(al)
		for i, a := range append(sample.Automata(al), sample.Everything(al), api.Automaton{}) {
			if i%2 > 0 {
				continue
			}
			b := definition(al, a)
			for _, x := range trees[:min(len(trees), 60)] {
				want := -1
				if states := sample.States(b, x); len(states) > 0 {
					want = states[0]
				}
				if class, e := mini.Class(al, a, x); class != want || e != api.OK {
					t.Errorf("Class of %v for %s: %d, error %d, want %d", x, sample.Show(a), class, e, want)
				}
			}
		}
	}
}

// P7.3: trees of one class are exchanged in larger trees without an effect, and
// trees without a class occur in no accepted tree.
func TestClassByContexts(t *testing.T) {
	for _, al := range sample.Alphabets() {
		trees := sample.Trees(al)
		contexts := trees[:min(len(trees), 40)]
		for i, a := range sample.Automata(al) {
			if i%5 > 0 {
				continue
			}
			accepted := map[int][]bool{}
			for _, x := range trees[:min(len(trees), 12)] {
				class, e := mini.Class(al, a, x)
				inside := insideContexts(al, a, contexts, x)
				known, seen := accepted[class]
				if e != api.OK || seen && !slices.Equal(known, inside) || class == -1 && slices.Contains(inside, true) {
					t.Errorf("Class of %v for %s: %d, error %d", x, sample.Show(a), class, e)
				}
				accepted[class] = inside
			}
		}
	}
}

// insideContexts reports for each leaf of the contexts whether a accepts the
// context with x in the place of the leaf.
func insideContexts(al api.Alphabet, a api.Automaton, contexts []api.Tree, x api.Tree) []bool {
	var list []bool
	for _, context := range contexts {
		positions, _ := tree.Positions(al, context)
		for _, pos := range positions {
			if leaf, _ := tree.At(al, context, pos); len(leaf.Kids) == 0 {
				larger, _ := tree.Put(al, context, pos, x)
				list = append(list, sample.Accepts(a, larger))
			}
		}
	}
	return list
}

// P7.3: trees with MaxSize nodes.
func TestClassOfLargeTrees(t *testing.T) {
	al := api.Alphabet{Ranks: []int{0, 1}}
	for _, n := range []int{1, 2, 64, 199, 200, 201, 300} {
		x := sample.Chain(n, 1, 0)
		class, e := mini.Class(al, sample.Counter(200), x)
		want := n - 1
		if n > 200 {
			want = -1
		}
		if class != want || e != api.OK {
			t.Errorf("Class of %d nodes: %d, error %d", n, class, e)
		}
	}
}

// P7.4
func TestEqual(t *testing.T) {
	base := func() api.Automaton {
		return api.Automaton{States: -5, Final: []int{7, 7, -1}, Rules: []api.Rule{sample.Rule(1, 2, 3, 4), sample.Rule(-1, -2), sample.Rule(1<<62, -1<<63, make([]int, 1000)...)}}
	}
	if !mini.Equal(base(), base()) || !mini.Equal(api.Automaton{}, api.Automaton{}) {
		t.Error("identical automata are not equal")
	}
	for i, change := range []func(a *api.Automaton){
		func(a *api.Automaton) { a.States++ },
		func(a *api.Automaton) { a.Final[2]-- },
		func(a *api.Automaton) { a.Final[0], a.Final[2] = a.Final[2], a.Final[0] },
		func(a *api.Automaton) { a.Final = a.Final[:2] },
		func(a *api.Automaton) { a.Final = append(a.Final, 0) },
		func(a *api.Automaton) { a.Final = nil },
		func(a *api.Automaton) { a.Rules[0].Sym++ },
		func(a *api.Automaton) { a.Rules[0].To++ },
		func(a *api.Automaton) { a.Rules[0].From[1]++ },
		func(a *api.Automaton) { a.Rules[0].From = []int{4, 3} },
		func(a *api.Automaton) { a.Rules[0].From = []int{3} },
		func(a *api.Automaton) { a.Rules[0].From = []int{3, 4, 0} },
		func(a *api.Automaton) { a.Rules[1].From = []int{0} },
		func(a *api.Automaton) { a.Rules[2].From[999]++ },
		func(a *api.Automaton) { a.Rules[0], a.Rules[1] = a.Rules[1], a.Rules[0] },
		func(a *api.Automaton) { a.Rules = a.Rules[1:] },
		func(a *api.Automaton) { a.Rules = append(a.Rules, a.Rules[2]) },
		func(a *api.Automaton) { a.Rules = nil },
	} {
		a, b := base(), base()
		change(&b)
		if mini.Equal(a, b) || mini.Equal(b, a) || !mini.Equal(b, b) {
			t.Errorf("change %d: Equal is wrong", i)
		}
	}
	empty := api.Automaton{States: 3, Final: []int{}, Rules: []api.Rule{}}
	if !mini.Equal(empty, api.Automaton{States: 3}) || !mini.Equal(api.Automaton{States: 3}, empty) {
		t.Error("an empty list does not equal nil")
	}
	if !mini.Equal(api.Automaton{Rules: []api.Rule{{From: []int{}}}}, api.Automaton{Rules: []api.Rule{{}}}) {
		t.Error("an empty From does not equal nil")
	}
}

// P7.6: no deterministic automaton has fewer useful states.
func TestFewestStates(t *testing.T) {
	var s sample.Source
	i := 0
	forAutomata(func(al api.Alphabet, a api.Automaton) {
		i++
		if i%4 > 0 {
			return
		}
		b, e := mini.Minimal(al, a)
		for _, c := range append(variants(t, &s, al, a), sample.DeterministicPart(a)) {
			useful, e2 := auto.Useful(al, c)
			number := len(slices.DeleteFunc(useful, func(is bool) bool { return !is }))
			same, e3 := mini.Same(al, a, c)
			if e != api.OK || e2 != api.OK || e3 != api.OK || same && sample.Deterministic(c) && number < b.States {
				t.Errorf("%s has %d useful states, %s has %d", sample.Show(c), number, sample.Show(b), b.States)
			}
		}
		useful, e := auto.Useful(al, b)
		if e != api.OK || slices.Contains(useful, false) {
			t.Errorf("%s: useful states %v, error %d", sample.Show(b), useful, e)
		}
	})
}

// P7.7
func TestIdempotence(t *testing.T) {
	forAutomata(func(al api.Alphabet, a api.Automaton) {
		b, e := mini.Minimal(al, a)
		c, e2 := mini.Minimal(al, b)
		checkAutomaton(t, "Minimal twice", c, e2, b)
		if e != api.OK || !mini.Equal(b, c) {
			t.Errorf("%s: Minimal twice is %s, error %d", sample.Show(b), sample.Show(c), e)
		}
	})
}
