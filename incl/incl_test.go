package incl_test

import (
	"boskage/api"
	"boskage/auto"
	"boskage/deter"
	"boskage/incl"
	"boskage/sample"
	"boskage/tree"
	"slices"
	"testing"
)

// P8.1, P8.2, P8.3, P8.7: decisions about two automata are exact.
func TestComparisons(t *testing.T) {
	calls, different := 0, 0
	forPairs(func(al api.Alphabet, a, b api.Automaton, profiles []profile) {
		calls++
		inA := func(p profile) bool { return acceptingRuns(a, p.a) > 0 }
		inB := func(p profile) bool { return acceptingRuns(b, p.b) > 0 }
		what := names(a, b)
		check(t, "Included "+what, decided(incl.Included(al, a, b)), leastOf(profiles, func(p profile) bool { return inA(p) && !inB(p) }))
		check(t, "Included backward "+what, decided(incl.Included(al, b, a)), leastOf(profiles, func(p profile) bool { return inB(p) && !inA(p) }))
		check(t, "Equal "+what, decided(incl.Equal(al, a, b)), leastOf(profiles, func(p profile) bool { return inA(p) != inB(p) }))
		check(t, "Disjoint "+what, decided(incl.Disjoint(al, a, b)), leastOf(profiles, func(p profile) bool { return inA(p) && inB(p) }))
		if leastOf(profiles, func(p profile) bool { return inA(p) != inB(p) }) != nil {
			different++
		}
	})
	if calls < 1500 || different < 200 {
		t.Errorf("only %d pairs, %d of which differ", calls, different)
	}
}

// P8.4, P8.5, P8.6, P8.7: decisions about one automaton are exact.
func TestProperties(t *testing.T) {
	ambiguous, universal := 0, 0
	forPairs(func(al api.Alphabet, a, b api.Automaton, profiles []profile) {
		name := sample.Show(a)
		least := leastOf(profiles, func(p profile) bool { return acceptingRuns(a, p.a) == 0 })
		check(t, "Universal "+name, decided(incl.Universal(al, a)), least)
		if least == nil {
			universal++
		}
		least = leastOf(profiles, func(p profile) bool { return acceptingRuns(a, p.a) > 1 })
		check(t, "Unambiguous "+name, decided(incl.Unambiguous(al, a)), least)
		if least != nil {
			ambiguous++
		}
		for _, pair := range sample.Lists(2, a.States) {
			least = leastOf(profiles, func(p profile) bool { return p.a[pair[0]] > 0 && p.a[pair[1]] > 0 })
			check(t, "Distinct "+name, decided(incl.Distinct(al, a, pair[0], pair[1])), least)
		}
	})
	if ambiguous < 100 || universal < 100 {
		t.Errorf("only %d ambiguous and %d universal automata", ambiguous, universal)
	}
}

// P8.7: no tree that comes before the returned one violates the property, and
// none at all if there is no such tree.
func TestByTrees(t *testing.T) {
	for _, al := range sample.Alphabets() {
		trees := sample.Trees(al)
		automata := sample.Automata(al)
		for i, a := range automata {
			b := automata[(i*11+5)%len(automata)]
			once := withoutDuplicates(a)
			s, u := i%max(a.States, 1), (i/2)%max(a.States, 1)
			byTrees(t, names(a, b), trees, []decision{
				decided(incl.Included(al, a, b)), decided(incl.Equal(al, a, b)), decided(incl.Disjoint(al, a, b)), decided(incl.Universal(al, a)), decided(incl.Unambiguous(al, a)),
			}, []func(x api.Tree) bool{
				func(x api.Tree) bool { return sample.Accepts(a, x) && !sample.Accepts(b, x) },
				func(x api.Tree) bool { return sample.Accepts(a, x) != sample.Accepts(b, x) },
				func(x api.Tree) bool { return sample.Accepts(a, x) && sample.Accepts(b, x) },
				func(x api.Tree) bool { return !sample.Accepts(a, x) },
				func(x api.Tree) bool { return acceptingRuns(a, runsOn(once, x)) > 1 },
			})
			if a.States > 0 {
				byTrees(t, "Distinct "+sample.Show(a), trees, []decision{decided(incl.Distinct(al, a, s, u))}, []func(x api.Tree) bool{
					func(x api.Tree) bool {
						states := sample.States(a, x)
						return slices.Contains(states, s) && slices.Contains(states, u)
					},
				})
			}
		}
	}
}

// byTrees checks decisions against all trees of a list.
func byTrees(t *testing.T, what string, trees []api.Tree, decisions []decision, violated []func(x api.Tree) bool) {
	t.Helper()
	for i, d := range decisions {
		if d.e != api.OK || !d.is && !violated[i](d.x) {
			t.Errorf("%s: decision %d: %t, %v, error %d", what, i, d.is, d.x, d.e)
		}
		for _, x := range trees {
			if violated[i](x) && (d.is || tree.Compare(x, d.x) < 0) {
				t.Errorf("%s: decision %d: %t, %v, but there is %v", what, i, d.is, d.x, x)
				break
			}
		}
	}
}

// P8.1, P8.2: the chapter's example.
func TestExample(t *testing.T) {
	al := api.Alphabet{Ranks: []int{0, 2}}
	a := api.Automaton{States: 2, Final: []int{1}, Rules: []api.Rule{sample.Rule(0, 0), sample.Rule(1, 1, 0, 0), sample.Rule(1, 0, 1, 1)}}
	b := sample.Everything(al)
	leaf := sample.Tree(0)
	check(t, "Included", decided(incl.Included(al, a, b)), nil)
	check(t, "Included backward", decided(incl.Included(al, b, a)), &leaf)
	check(t, "Equal", decided(incl.Equal(al, a, b)), &leaf)
	check(t, "Universal", decided(incl.Universal(al, a)), &leaf)
	check(t, "Universal of all trees", decided(incl.Universal(al, b)), nil)
}

// P8.1 to P8.4: without trees, or without accepted trees, properties hold.
func TestNoTrees(t *testing.T) {
	for _, al := range []api.Alphabet{{}, {Ranks: []int{1, 2, 3}}} {
		for _, a := range []api.Automaton{{}, {States: 300, Final: []int{299}}, sample.Everything(al)} {
			check(t, "Included", decided(incl.Included(al, a, api.Automaton{})), nil)
			check(t, "Equal", decided(incl.Equal(al, api.Automaton{}, a)), nil)
			check(t, "Disjoint", decided(incl.Disjoint(al, a, a)), nil)
			check(t, "Universal", decided(incl.Universal(al, a)), nil)
			check(t, "Unambiguous", decided(incl.Unambiguous(al, a)), nil)
			if a.States > 0 {
				check(t, "Distinct", decided(incl.Distinct(al, a, 0, 0)), nil)
			}
		}
	}
	leaf := sample.Tree(0)
	check(t, "Included", decided(incl.Included(all, api.Automaton{}, api.Automaton{})), nil)
	check(t, "Disjoint", decided(incl.Disjoint(all, api.Automaton{}, sample.Everything(all))), nil)
	check(t, "Universal", decided(incl.Universal(all, api.Automaton{})), &leaf)
	check(t, "Equal", decided(incl.Equal(all, api.Automaton{States: 1, Final: []int{0}}, api.Automaton{})), nil)
}

// P8.1 to P8.4: the least tree may have MaxSize nodes, and no more.
func TestLargeTrees(t *testing.T) {
	everything, nothing := sample.Everything(twos), api.Automaton{}
	for _, n := range []int{1, 2, 150, 299, 300, 301, 302, 1000, 4000} {
		a, x := sized(n)
		others, e := deter.Complement(twos, a)
		if e != api.OK {
			t.Errorf("Complement: error %d", e)
		}
		for _, d := range []decision{
			decided(incl.Included(twos, a, nothing)), decided(incl.Equal(twos, a, nothing)), decided(incl.Equal(twos, nothing, a)), decided(incl.Universal(twos, others)),
			decided(incl.Disjoint(twos, a, everything)), decided(incl.Disjoint(twos, everything, a)), decided(incl.Disjoint(twos, a, a)),
		} {
			if n > api.MaxSize {
				checkRefused(t, "large tree", d, api.ErrFull)
			} else {
				check(t, "large tree", d, x)
			}
		}
		check(t, "large tree", decided(incl.Included(twos, a, a)), nil)
		check(t, "large tree", decided(incl.Equal(twos, a, a)), nil)
		check(t, "large tree", decided(incl.Disjoint(twos, a, others)), nil)
	}
	al := api.Alphabet{Ranks: []int{0, 1}}
	longest, short := sample.Chain(300, 1, 0), sample.Counter(299)
	short.Final = nil
	for state := range 299 {
		short.Final = append(short.Final, state)
	}
	check(t, "Universal", decided(incl.Universal(al, short)), &longest)
	check(t, "Included", decided(incl.Included(al, sample.Everything(al), short)), &longest)
}

// P8.2: of two directions, the one with the lesser tree counts, even if the tree
// of the other one is too large.
func TestEqualInBothDirections(t *testing.T) {
	pair := sample.Tree(2, sample.Tree(0), sample.Tree(0))
	large, _ := sized(301)
	// Its states 0 and 1 belong to the leaf and to the pair.
	more := api.Automaton{States: large.States, Final: []int{1, large.States - 1}, Rules: large.Rules}
	for _, m := range []int{1, 2, 3, 4, 5, 63, 64, 299, 300} {
		a, x := sized(m)
		for _, n := range []int{1, 2, 3, 4, 5, 63, 64, 299, 300, 301} {
			b, y := sized(n)
			least := x
			if n == m {
				least = nil
			} else if n < m {
				least = y
			}
			check(t, "one tree each", decided(incl.Equal(twos, a, b)), least)
			check(t, "one tree each", decided(incl.Equal(twos, b, a)), least)
		}
		if m == 3 {
			checkRefused(t, "one more", decided(incl.Equal(twos, more, a)), api.ErrFull)
			checkRefused(t, "one more", decided(incl.Equal(twos, a, more)), api.ErrFull)
			continue
		}
		if m > 3 {
			x = &pair
		}
		check(t, "two trees", decided(incl.Equal(twos, more, a)), x)
		check(t, "two trees", decided(incl.Equal(twos, a, more)), x)
	}
	larger, _ := sized(302)
	checkRefused(t, "two large trees", decided(incl.Equal(twos, large, larger)), api.ErrFull)
	checkRefused(t, "two large trees", decided(incl.Equal(twos, larger, large)), api.ErrFull)
	// Trees of one size are compared by their symbols.
	al := api.Alphabet{Ranks: []int{1, 0, 1, 0}}
	x, y := sample.Tree(0, sample.Tree(3)), sample.Tree(2, sample.Tree(1))
	a, e1 := auto.Single(al, x)
	b, e2 := auto.Single(al, y)
	if e1 != api.OK || e2 != api.OK {
		t.Errorf("Single: errors %d and %d", e1, e2)
	}
	check(t, "one size", decided(incl.Equal(al, a, b)), &x)
	check(t, "one size", decided(incl.Equal(al, b, a)), &x)
}

// P8.8
func TestLaws(t *testing.T) {
	included := func(al api.Alphabet, a, b api.Automaton) bool {
		is, _, e := incl.Included(al, a, b)
		if e != api.OK {
			t.Errorf("Included of %s: error %d", names(a, b), e)
		}
		return is
	}
	chainsOfThree := 0
	for _, al := range sample.Alphabets() {
		automata := append(sample.Automata(al)[:60], api.Automaton{}, sample.Everything(al))
		for i, a := range automata {
			if !included(al, a, a) {
				t.Errorf("%s is not included in itself", sample.Show(a))
			}
			for _, j := range []int{(i*7 + 1) % len(automata), (i + 20) % len(automata), (i * i) % len(automata)} {
				b := automata[j]
				is, _, e := incl.Equal(al, a, b)
				if e != api.OK || is != (included(al, a, b) && included(al, b, a)) {
					t.Errorf("Equal of %s: %t, error %d", names(a, b), is, e)
				}
				c := automata[(i+2*j)%len(automata)]
				if included(al, a, b) && included(al, b, c) {
					chainsOfThree++
					if !included(al, a, c) {
						t.Errorf("%s and %s: Included is not transitive", names(a, b), sample.Show(c))
					}
				}
			}
		}
	}
	if chainsOfThree < 100 {
		t.Errorf("only %d inclusions of three languages", chainsOfThree)
	}
}
