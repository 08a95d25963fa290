package incl_test

import (
	"boskage/api"
	"boskage/auto"
	"boskage/incl"
	"boskage/sample"
	"boskage/tree"
	"slices"
	"testing"
)

// P8.1, P8.2: no ErrFull as long as Minus fits.
func TestInclusionAtTheLimit(t *testing.T) {
	// The least tree with a node g, and no more than there may be of h.
	g := sample.Tree(1, sample.Tree(0))
	check(t, "298 states", decided(incl.Included(chains, sample.Modulo(1, 2), sample.Modulo(2, 148))), &g)
	check(t, "299 states", decided(incl.Included(chains, sample.Modulo(1, 1), sample.Modulo(2, 299))), chain(0, 0))
	check(t, "225 states", decided(incl.Included(chains, sample.Modulo(1, 75), sample.Modulo(2, 2))), chain(74, 0))
	check(t, "16 states", decided(incl.Equal(chains, sample.Modulo(1, 16), sample.Modulo(2, 16))), chain(15, 0))
	check(t, "16 states", decided(incl.Equal(chains, sample.Modulo(1, 16), sample.Modulo(1, 16))), nil)
	check(t, "multiples", decided(incl.Included(chains, sample.Modulo(1, 24), sample.Modulo(1, 8))), nil)
	check(t, "multiples", decided(incl.Included(chains, sample.Modulo(1, 8), sample.Modulo(1, 24))), chain(7, 0))
	sets := api.Alphabet{Ranks: []int{0, 1, 1, 1, 1}}
	for _, x := range []struct {
		a, b api.Automaton
	}{{sample.Counter(17), sample.AllSets(4)}, {sample.AllSets(17), sample.AllSets(4)}, {sample.Everything(sets), sample.AllSets(8)}} {
		d := decided(incl.Included(sets, x.a, x.b))
		if d.e != api.OK || !d.is && (!sample.Accepts(x.a, d.x) || sample.Accepts(x.b, d.x)) {
			t.Errorf("%s: %t, %v, error %d", names(x.a, x.b), d.is, d.x, d.e)
		}
	}
	some := sample.AllSets(4)
	check(t, "itself", decided(incl.Included(sets, some, some)), nil)
	check(t, "itself", decided(incl.Equal(sets, some, some)), nil)
}

// P8.1, P8.2: beyond the limit, a result is either right or ErrFull.
func TestInclusionBeyondTheLimit(t *testing.T) {
	checkOrFull(t, "301 states", decided(incl.Included(chains, sample.Modulo(1, 7), sample.Modulo(2, 43))), chain(6, 0))
	checkOrFull(t, "300 and 300 states", decided(incl.Included(chains, sample.Modulo(1, 300), sample.Modulo(2, 300))), chain(299, 0))
	checkOrFull(t, "300 and 300 states", decided(incl.Equal(chains, sample.Modulo(1, 300), sample.Modulo(1, 300))), nil)
	// Minus of b and a has no tree, so the whole result is known only if Minus of a and b is.
	a := sample.Modulo(1, 300)
	checkOrFull(t, "300 states and 1", decided(incl.Equal(chains, sample.Everything(chains), a)), chain(0, 0))
	checkOrFull(t, "300 states and 1", decided(incl.Equal(chains, a, sample.Everything(chains))), chain(0, 0))
	sets := api.Alphabet{Ranks: []int{0, 1, 1, 1, 1}}
	for _, n := range []int{9, 20, 300} {
		checkOrFull(t, "sets", decided(incl.Included(sets, sample.AllSets(n), sample.AllSets(n))), nil)
		checkOrFull(t, "sets", decided(incl.Equal(sets, sample.AllSets(n), sample.AllSets(n))), nil)
		checkOrFull(t, "sets", decided(incl.Included(sets, sample.AllSets(n), sample.Everything(sets))), nil)
		d := decided(incl.Equal(sets, sample.AllSets(n), sample.Everything(sets)))
		if d.e != api.ErrFull && (d.e != api.OK || d.is || sample.Accepts(sample.AllSets(n), d.x)) {
			t.Errorf("%d sets: %t, %v, error %d", n, d.is, d.x, d.e)
		}
	}
}

// P8.3: no ErrFull as long as Meet fits; beyond that, a result is either right
// or ErrFull.
func TestDisjointLimits(t *testing.T) {
	for _, numbers := range [][2]int{{300, 1}, {1, 300}, {20, 15}, {17, 17}, {2, 150}, {150, 2}} {
		g, h := numbers[0], numbers[1]
		check(t, "Disjoint", decided(incl.Disjoint(chains, sample.Modulo(1, g), sample.Modulo(2, h))), chain(g-1, h-1))
	}
	check(t, "even and odd", decided(incl.Disjoint(chains, sample.Modulo(1, 2), shifted(sample.Modulo(1, 150)))), nil)
	for _, numbers := range [][2]int{{300, 300}, {43, 7}, {16, 19}} {
		g, h := numbers[0], numbers[1]
		d := decided(incl.Disjoint(chains, sample.Modulo(1, g), sample.Modulo(2, h)))
		if g+h-1 > api.MaxSize {
			checkRefused(t, "Disjoint", d, api.ErrFull)
		} else {
			checkOrFull(t, "Disjoint", d, chain(g-1, h-1))
		}
	}
	sets := api.Alphabet{Ranks: []int{0, 1, 1, 1, 1}}
	leaf := sample.Tree(0)
	checkOrFull(t, "sets", decided(incl.Disjoint(sets, sample.AllSets(300), sample.AllSets(300))), &leaf)
}

// shifted makes the first state final instead of the last one.
func shifted(a api.Automaton) api.Automaton {
	a.Final = []int{0}
	return a
}

// P8.4: no ErrFull as long as Complement fits; beyond that, a result is either
// right or ErrFull.
func TestUniversalLimits(t *testing.T) {
	for _, x := range sample.Largest() {
		d := decided(incl.Universal(x.Al, x.A))
		if d.e != api.OK || d.is || sample.Accepts(x.A, d.x) {
			t.Errorf("%s: %t, %v, error %d", sample.Show(x.A), d.is, d.x, d.e)
		}
		all := sample.Copy(x.A)
		all.Final = nil
		for state := range all.States {
			all.Final = append(all.Final, state)
		}
		// Only symbol 4 leads from {0} nowhere.
		forgotten := sample.Tree(4, sample.Tree(0))
		check(t, "all states final", decided(incl.Universal(x.Al, all)), &forgotten)
		all.Rules = append(all.Rules, sample.Rule(4, 0, 0))
		check(t, "all states final", decided(incl.Universal(x.Al, all)), nil)
	}
	al := api.Alphabet{Ranks: []int{0, 2}}
	a := sample.Full(al, 140)
	a.Final = nil
	for state := range 140 {
		a.Final = append(a.Final, state)
	}
	check(t, "many rules", decided(incl.Universal(al, a)), nil)
	for _, states := range []int{9, 20, 300} {
		d := decided(incl.Universal(api.Alphabet{Ranks: []int{0, 1, 1, 1, 1}}, sample.AllSets(states)))
		if d.e == api.ErrFull {
			checkRefused(t, "sets", d, api.ErrFull)
		} else if d.e != api.OK || d.is || sample.Accepts(sample.AllSets(states), d.x) {
			t.Errorf("%d sets: %t, %v, error %d", states, d.is, d.x, d.e)
		}
	}
}

// P8.5: which runs count as several ones.
func TestUnambiguousKinds(t *testing.T) {
	al := api.Alphabet{Ranks: []int{0, 1, 2}}
	leaf, pair := sample.Tree(0), sample.Tree(2, sample.Tree(0), sample.Tree(0))
	base := []api.Rule{sample.Rule(0, 0), sample.Rule(0, 1)}
	rules := func(more ...api.Rule) []api.Rule { return slices.Concat(base, more) }
	for _, x := range []struct {
		what string
		a    api.Automaton
		want *api.Tree
	}{
		{"one of two states is final", api.Automaton{States: 2, Final: []int{1}, Rules: base}, nil},
		{"both are final", api.Automaton{States: 2, Final: []int{0, 1}, Rules: base}, &leaf},
		{"identical rules", api.Automaton{States: 1, Final: []int{0}, Rules: slices.Repeat(base[:1], 20000)}, nil},
		{"one of the states leads nowhere", api.Automaton{States: 3, Final: []int{2}, Rules: rules(sample.Rule(1, 2, 0), sample.Rule(2, 2, 0, 0))}, nil},
		{"the states lead to different final states", api.Automaton{States: 4, Final: []int{2, 3}, Rules: rules(sample.Rule(2, 2, 0, 0), sample.Rule(2, 3, 1, 1))}, &pair},
		{"the states lead to one final state", api.Automaton{States: 4, Final: []int{2, 3}, Rules: rules(sample.Rule(2, 2, 0, 1), sample.Rule(2, 2, 1, 0))}, &pair},
		{"one of these is not final", api.Automaton{States: 4, Final: []int{2}, Rules: rules(sample.Rule(2, 2, 0, 0), sample.Rule(2, 3, 1, 1))}, nil},
		{"the runs differ at one subtree", api.Automaton{States: 4, Final: []int{2}, Rules: rules(sample.Rule(2, 2, 0, 0), sample.Rule(2, 2, 0, 1))}, &pair},
		{"the runs differ at the other subtree", api.Automaton{States: 4, Final: []int{2}, Rules: rules(sample.Rule(2, 2, 0, 0), sample.Rule(2, 2, 1, 0))}, &pair},
		{"no tree has both states", api.Automaton{States: 4, Final: []int{2}, Rules: []api.Rule{sample.Rule(0, 0), sample.Rule(1, 1, 0), sample.Rule(1, 2, 0), sample.Rule(1, 2, 1)}}, nil},
	} {
		check(t, x.what, decided(incl.Unambiguous(al, x.a)), x.want)
	}
	deep := sample.Tree(1, sample.Tree(1, pair))
	ambiguous := api.Automaton{States: 3, Final: []int{2}, Rules: rules(sample.Rule(2, 0, 0, 1), sample.Rule(2, 0, 1, 0), sample.Rule(1, 1, 0), sample.Rule(1, 2, 1))}
	check(t, "deep", decided(incl.Unambiguous(al, ambiguous)), &deep)
	// The two runs on the inner tree end in one state, like those on the leaf.
	ambiguous.Rules = ambiguous.Rules[1:]
	check(t, "deep", decided(incl.Unambiguous(al, ambiguous)), nil)
}

// twoLeaves returns Power(2, levels) with two runs on each tree.
func twoLeaves(levels int) api.Automaton {
	a := sample.Power(2, levels)
	a.Rules = append(a.Rules, sample.Rule(0, a.States), sample.Rule(2, 1, 0, a.States))
	a.States++
	return a
}

// P8.5: the least tree may have MaxSize nodes, and no more.
func TestUnambiguousLargeTrees(t *testing.T) {
	for levels := 2; levels <= 11; levels++ {
		d := decided(incl.Unambiguous(all, twoLeaves(levels)))
		if levels > 8 {
			checkRefused(t, "two runs", d, api.ErrFull)
		} else {
			check(t, "two runs", d, full(levels))
		}
		check(t, "one run", decided(incl.Unambiguous(all, sample.Power(2, levels))), nil)
	}
}

// crowded returns automata with 12 states and 50 rules, which are just within
// the limit: a is assigned all states, and f of rank 3 has three kinds of rules.
func crowded() []api.Automaton {
	var list []api.Automaton
	for kind := range 3 {
		a := api.Automaton{States: 12}
		for state := range 12 {
			a.Final = append(a.Final, state)
			a.Rules = append(a.Rules, sample.Rule(0, state))
		}
		for i := range 38 {
			from := [][]int{{i / 12, i / 12, i / 12}, {i % 7, 0, i / 7}, {i % 12, (i + 1) % 12, i / 12}}[kind]
			a.Rules = append(a.Rules, sample.Rule(3, i%12, from...))
		}
		list = append(list, a)
	}
	return list
}

// P8.5: no ErrFull within the limit, where only useful states and different
// rules count.
func TestUnambiguousAtTheLimit(t *testing.T) {
	leaf := sample.Tree(0)
	above := sample.Tree(3, leaf, leaf, leaf)
	for i, a := range crowded() {
		check(t, "crowded", decided(incl.Unambiguous(all, a)), &leaf)
		a.Final = []int{0}
		check(t, "crowded, one final state", decided(incl.Unambiguous(all, a)), &above)
		a.Rules = append(a.Rules, slices.Repeat(a.Rules, 300)...)
		for state := 12; state < 300; state++ {
			a.Rules = append(a.Rules, sample.Rule(0, state), sample.Rule(1, state, state), sample.Rule(2, 0, state, 12), sample.Rule(2, 0, 13, 0))
		}
		a.States = 300
		a.Rules = slices.DeleteFunc(a.Rules, func(r api.Rule) bool { return r.Sym == 2 || r.Sym == 1 && r.From[0] < 12 })
		if !auto.Valid(all, a) {
			t.Errorf("crowded %d: not valid", i)
		}
		check(t, "crowded with useless states", decided(incl.Unambiguous(all, a)), &above)
	}
	// The leaf has one state, f(a, a, a) has all, and most pairs of rules agree in
	// two states of From.
	a := api.Automaton{States: 12, Final: []int{0}, Rules: []api.Rule{sample.Rule(0, 0)}}
	for i := range 49 {
		a.Rules = append(a.Rules, sample.Rule(3, i%12, 0, 0, i/12))
	}
	highest := sample.Tree(3, leaf, leaf, above)
	check(t, "similar rules, one final state", decided(incl.Unambiguous(all, a)), &highest)
	a.Final = crowded()[0].Final
	check(t, "similar rules", decided(incl.Unambiguous(all, a)), &above)
	// 12 useful states, where no tree has two of them.
	a = sample.Counter(12)
	a.Rules = append(a.Rules, sample.Rule(2, 5, 11, 11), sample.Rule(2, 5, 11, 10), sample.Rule(1, 0, 11))
	check(t, "deterministic", decided(incl.Unambiguous(all, a)), nil)
}

// P8.5: beyond the limit, a result is either right or ErrFull. Deterministic
// automata are unambiguous, however large.
func TestUnambiguousBeyondTheLimit(t *testing.T) {
	check(t, "300 states", decided(incl.Unambiguous(all, sample.Counter(300))), nil)
	check(t, "many rules", decided(incl.Unambiguous(all, sample.Full(all, 26))), nil)
	for _, states := range []int{13, 16, 17, 299} {
		a := sample.Counter(states)
		a.States++
		last := a.States - 1
		a.Rules = append(a.Rules, sample.Rule(0, last), sample.Rule(1, last, last))
		checkOrFull(t, "two ends", decided(incl.Unambiguous(all, a)), nil)
		a.Final = append(a.Final, last)
		x := sample.Chain(states, 1, 0)
		checkOrFull(t, "two ends", decided(incl.Unambiguous(all, a)), &x)
	}
	leaf := sample.Tree(0)
	for _, a := range crowded() {
		for i, from := range sample.Lists(3, 12) {
			a.Rules = append(a.Rules, sample.Rule(3, i%12, from...), sample.Rule(3, (i+5)%12, from...), sample.Rule(3, (i+7)%12, from...))
			if i == 10 || i == 60 {
				checkOrFull(t, "many rules", decided(incl.Unambiguous(all, a)), &leaf)
			}
		}
		checkOrFull(t, "many rules", decided(incl.Unambiguous(all, a)), &leaf)
	}
}

// P8.5: automata in which most trees have many runs. Up to 12 states, they are
// within the limit.
func TestUnambiguousSets(t *testing.T) {
	sets := api.Alphabet{Ranks: []int{0, 1, 1, 1, 1}}
	for _, n := range []int{2, 3, 8, 12, 13, 16, 17, 300} {
		a := sample.AllSets(n)
		several := func(x api.Tree) bool { return acceptingRuns(a, runsOn(withoutDuplicates(a), x)) > 1 }
		d := decided(incl.Unambiguous(sets, a))
		if n > 12 && d.e == api.ErrFull {
			checkRefused(t, "sets", d, api.ErrFull)
			continue
		}
		if d.is || !several(d.x) || d.e != api.OK {
			t.Errorf("%d sets: %t, %v, error %d", n, d.is, d.x, d.e)
		}
		for size := 1; size <= tree.Size(d.x); size++ {
			smaller, _ := tree.All(sets, size)
			for _, x := range smaller {
				if several(x) && tree.Compare(x, d.x) < 0 {
					t.Errorf("%d sets: %v, but there is %v", n, d.x, x)
				}
			}
		}
	}
}

// P8.6: no ErrFull as long as Meet fits; beyond that, a result is either right
// or ErrFull.
func TestDistinctLimits(t *testing.T) {
	a := sample.Counter(17)
	for s := range 17 {
		for u := range 17 {
			var want *api.Tree
			if s == u {
				x := sample.Chain(s+1, 1, 0)
				want = &x
			}
			check(t, "17 states", decided(incl.Distinct(all, a, s, u)), want)
		}
	}
	both := twoLeaves(9)
	check(t, "two leaves", decided(incl.Distinct(all, both, 0, 9)), full(1))
	checkRefused(t, "one state", decided(incl.Distinct(all, both, 8, 8)), api.ErrFull)
	check(t, "one state", decided(incl.Distinct(all, both, 7, 7)), full(8))
	check(t, "two states", decided(incl.Distinct(all, both, 7, 8)), nil)
	a = sample.Counter(300)
	x := sample.Chain(300, 1, 0)
	checkOrFull(t, "300 states", decided(incl.Distinct(all, a, 299, 299)), &x)
	checkOrFull(t, "300 states", decided(incl.Distinct(all, a, 299, 298)), nil)
	sets := api.Alphabet{Ranks: []int{0, 1, 1, 1, 1}}
	d := decided(incl.Distinct(sets, sample.AllSets(300), 5, 7))
	if d.e == api.ErrFull {
		checkRefused(t, "sets", d, api.ErrFull)
	} else if states := sample.States(sample.AllSets(300), d.x); d.is || !slices.Contains(states, 5) || !slices.Contains(states, 7) {
		t.Errorf("sets: %t, %v, error %d", d.is, d.x, d.e)
	}
}
