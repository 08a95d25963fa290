package empty_test

import (
	"boskage/api"
	"boskage/auto"
	"boskage/empty"
	"boskage/sample"
	"boskage/tree"
	"slices"
	"testing"
)

// P6.3, P6.8: of automata with at most 4 states, the least trees have at most
// maxSmall nodes.
func TestLeast(t *testing.T) {
	forAll(func(al api.Alphabet, a api.Automaton) {
		sizes := minima(a, profileOf(a, maxSmall, 0))
		leasts := leastBySize(a, slices.Max(append(sizes, 0)))
		var best *api.Tree
		for state := range a.States {
			want := leasts[sizes[state]][state]
			got, e := empty.LeastOf(al, a, state)
			checkLeast(t, "LeastOf "+sample.Show(a), got, e, want)
			if want != nil && slices.Contains(a.Final, state) && (best == nil || tree.Compare(*want, *best) < 0) {
				best = want
			}
		}
		got, e := empty.Least(al, a)
		checkLeast(t, "Least of "+sample.Show(a), got, e, best)
	})
}

// checkLeast checks a tree that is perhaps not there.
func checkLeast(t *testing.T, what string, got api.Tree, e api.Errno, want *api.Tree) {
	t.Helper()
	if want == nil {
		checkNoTree(t, what, got, e, api.ErrNone)
		return
	}
	checkTree(t, what, got, e, *want)
}

// P6.3, P6.8: Least is accepted, and no tree before it is.
func TestLeastByTrees(t *testing.T) {
	for _, al := range sample.Alphabets() {
		trees := sample.Trees(al)
		for _, a := range sample.Automata(al) {
			got, e := empty.Least(al, a)
			if e == api.OK {
				is, e := auto.Accepts(al, a, got)
				if !is || e != api.OK {
					t.Errorf("%s: Least is not accepted, error %d", sample.Show(a), e)
				}
			}
			for _, x := range trees {
				if sample.Accepts(a, x) && (e != api.OK || tree.Compare(x, got) < 0) {
					t.Errorf("%s: %v is accepted, Least is %v, error %d", sample.Show(a), x, got, e)
				}
			}
		}
	}
}

// P6.3, P6.8: many states and symbols, so that many trees have the least size.
func TestLeastOfManyCandidates(t *testing.T) {
	var s sample.Source
	for _, ranks := range [][]int{{0, 0, 0, 1, 1, 2, 2}, {3, 0, 3, 0}, {2, 1, 0, 0, 2, 1}, {0, 0, 2, 3, 2, 3}} {
		al := api.Alphabet{Ranks: ranks}
		for range 60 {
			a := sample.Acyclic(&s, al, 4+s.Below(4), 40+s.Below(40))
			leasts := leastBySize(a, 15)
			for state := range a.States {
				n := slices.IndexFunc(leasts, func(trees []*api.Tree) bool { return trees[state] != nil })
				if n < 0 {
					continue
				}
				got, e := empty.LeastOf(al, a, state)
				checkTree(t, "LeastOf "+sample.Show(a), got, e, *leasts[n][state])
			}
		}
	}
}

// P6.3: what decides between trees of the same size: the symbol, then the size
// of the first subtree, then its symbol, then the second subtree.
func TestLeastDecides(t *testing.T) {
	// 0: a; 1: b; 2: g(b); 3: g(a).
	al := api.Alphabet{Ranks: []int{2, 0, 1, 2, 0}}
	rules := []api.Rule{sample.Rule(1, 0), sample.Rule(4, 1), sample.Rule(2, 2, 1), sample.Rule(2, 3, 0)}
	a, b := sample.Tree(1), sample.Tree(4)
	ga, gb := sample.Tree(2, a), sample.Tree(2, b)
	tests := []struct {
		rules []api.Rule
		want  api.Tree
	}{
		{[]api.Rule{sample.Rule(3, 4, 0, 0), sample.Rule(0, 4, 1, 1)}, sample.Tree(0, b, b)},
		{[]api.Rule{sample.Rule(3, 4, 0, 0), sample.Rule(0, 4, 2, 2)}, sample.Tree(3, a, a)},
		{[]api.Rule{sample.Rule(0, 4, 3, 0), sample.Rule(0, 4, 1, 2)}, sample.Tree(0, b, gb)},
		{[]api.Rule{sample.Rule(0, 4, 2, 0), sample.Rule(0, 4, 3, 1)}, sample.Tree(0, ga, b)},
		{[]api.Rule{sample.Rule(0, 4, 3, 1), sample.Rule(0, 4, 3, 0)}, sample.Tree(0, ga, a)},
		{[]api.Rule{sample.Rule(0, 4, 0, 2), sample.Rule(0, 4, 0, 3)}, sample.Tree(0, a, ga)},
		{[]api.Rule{sample.Rule(0, 4, 1, 3), sample.Rule(0, 4, 0, 2)}, sample.Tree(0, a, gb)},
	}
	for _, test := range tests {
		for _, more := range [][]api.Rule{{test.rules[0], test.rules[1]}, {test.rules[1], test.rules[0]}} {
			c := api.Automaton{States: 5, Final: []int{4}, Rules: slices.Concat(rules, more)}
			got, e := empty.Least(al, c)
			checkTree(t, "one final state", got, e, test.want)
			got, e = empty.LeastOf(al, c, 4)
			checkTree(t, "LeastOf", got, e, test.want)
			// The same choice between two final states.
			c.States, c.Final = 6, []int{4, 5}
			c.Rules = slices.Clone(c.Rules)
			c.Rules[len(c.Rules)-1].To = 5
			got, e = empty.Least(al, c)
			checkTree(t, "two final states", got, e, test.want)
		}
	}
}

// P6.3: least trees with MaxSize nodes, and more.
func TestLeastLimits(t *testing.T) {
	for levels := 1; levels <= 300; levels++ {
		got, e := empty.Least(all, sample.Power(1, levels))
		checkTree(t, "chain", got, e, sample.Chain(levels, 1, 0))
	}
	two := sample.Tree(0)
	for levels := 1; levels <= 70; levels++ {
		got, e := empty.Least(all, reversed(sample.Power(2, levels)))
		if levels > 8 {
			checkNoTree(t, "rank 2", got, e, api.ErrFull)
			continue
		}
		checkTree(t, "rank 2", got, e, two)
		two = sample.Tree(2, two, two)
	}
	got, e := empty.Least(all, sample.Power(3, 300))
	checkNoTree(t, "rank 3", got, e, api.ErrFull)
	a := sample.Power(1, 300)
	a.Rules = append(a.Rules, sample.Rule(2, 298, 100, 199))
	got, e = empty.LeastOf(all, a, 298)
	checkTree(t, "299 nodes", got, e, sample.Chain(299, 1, 0))
	a.Rules = slices.DeleteFunc(a.Rules, func(r api.Rule) bool { return r.To == 298 || r.To == 299 })
	a.Rules = append(a.Rules, sample.Rule(2, 298, 100, 197), sample.Rule(1, 299, 298))
	got, e = empty.LeastOf(all, a, 298)
	checkTree(t, "300 nodes", got, e, sample.Tree(2, sample.Chain(101, 1, 0), sample.Chain(198, 1, 0)))
	got, e = empty.LeastOf(all, a, 299)
	checkNoTree(t, "301 nodes", got, e, api.ErrFull)
	got, e = empty.Least(all, a)
	checkNoTree(t, "301 nodes", got, e, api.ErrFull)
	a.Final = []int{298, 299}
	got, e = empty.Least(all, a)
	checkTree(t, "300 or 301 nodes", got, e, sample.Tree(2, sample.Chain(101, 1, 0), sample.Chain(198, 1, 0)))
}

// P6.3: a small tree beside states with very large ones, whose sizes cannot be
// told apart.
func TestLeastBesideLargeTrees(t *testing.T) {
	a := sample.Power(2, 300)
	a.Rules = append(a.Rules, sample.Rule(1, 250, 250))
	for _, final := range [][]int{{2, 299}, {2, 250}, {2, 3, 60, 70, 80, 250, 251}} {
		a.Final = final
		got, e := empty.Least(all, a)
		leaf := sample.Tree(0)
		checkTree(t, "Least", got, e, sample.Tree(2, sample.Tree(2, leaf, leaf), sample.Tree(2, leaf, leaf)))
	}
	for _, state := range []int{60, 61, 62, 250, 251} {
		got, e := empty.LeastOf(all, a, state)
		checkNoTree(t, "LeastOf", got, e, api.ErrFull)
	}
}

// P6.3: many rules for trees of the same size.
func TestLeastOfManyRules(t *testing.T) {
	al := api.Alphabet{Ranks: []int{0, 2}}
	a := sample.Full(al, 141)
	got, e := empty.LeastOf(al, a, 0)
	if e != api.OK || !slices.Contains(sample.States(a, got), 0) {
		t.Errorf("%v, error %d", got, e)
	}
	want := leastBySize(a, tree.Size(got))
	checkTree(t, "LeastOf", got, e, *want[tree.Size(got)][0])
	for n := range tree.Size(got) {
		if want[n][0] != nil {
			t.Errorf("there is a tree with %d nodes", n)
		}
	}
}

// P6.3: states out of range, and the order of errors.
func TestLeastErrors(t *testing.T) {
	for _, a := range []api.Automaton{{}, example(), {States: 300}} {
		for _, s := range []int{-1, -1 << 63, a.States, 300, 1<<63 - 1} {
			x, e := empty.LeastOf(exampleAlphabet, a, s)
			checkNoTree(t, "LeastOf", x, e, api.ErrRange)
		}
	}
	x, e := empty.LeastOf(exampleAlphabet, api.Automaton{States: 1}, 0)
	checkNoTree(t, "no tree", x, e, api.ErrNone)
	x, e = empty.LeastOf(all, sample.Power(3, 300), 300)
	checkNoTree(t, "out of range", x, e, api.ErrRange)
	x, e = empty.Least(exampleAlphabet, api.Automaton{})
	checkNoTree(t, "no states", x, e, api.ErrNone)
	x, e = empty.Least(api.Alphabet{}, api.Automaton{States: 1, Final: []int{0}})
	checkNoTree(t, "no symbols", x, e, api.ErrNone)
}
