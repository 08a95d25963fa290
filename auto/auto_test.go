package auto_test

import (
	"boskage/api"
	"boskage/auto"
	"boskage/sample"
	"boskage/tree"
	"slices"
	"testing"
)

// P3.1
func TestValid(t *testing.T) {
	leaf := sample.Rule(0, 0)
	good := []struct {
		ranks []int
		a     api.Automaton
	}{
		{nil, api.Automaton{}},
		{nil, api.Automaton{States: 2, Final: []int{0, 1}, Rules: []api.Rule{}}},
		{[]int{0}, api.Automaton{}},
		{[]int{0}, api.Automaton{States: 1, Final: []int{}, Rules: []api.Rule{leaf, leaf}}},
		{[]int{0}, api.Automaton{States: 1, Rules: []api.Rule{{Sym: 0, From: []int{}}}}},
		{[]int{0}, api.Automaton{States: api.MaxStates, Final: []int{0, 299}}},
		{[]int{0}, api.Automaton{States: 1, Rules: slices.Repeat([]api.Rule{leaf}, api.MaxRules)}},
		{[]int{3, 0, 1}, api.Automaton{States: 3, Final: []int{1}, Rules: []api.Rule{sample.Rule(2, 2, 0), sample.Rule(0, 0, 2, 1, 0)}}},
		{make([]int, 12), api.Automaton{States: 1, Rules: []api.Rule{sample.Rule(11, 0)}}},
	}
	for _, test := range good {
		if !auto.Valid(api.Alphabet{Ranks: test.ranks}, test.a) {
			t.Errorf("%v over %v is valid", test.a, test.ranks)
		}
	}
	forAll(func(al api.Alphabet, a api.Automaton) {
		if !auto.Valid(al, a) {
			t.Errorf("%v over %v is valid", sample.Show(a), al)
		}
	})
	sample.BadArguments(func(al api.Alphabet, a api.Automaton) {
		if auto.Valid(al, a) {
			t.Errorf("an automaton of %d states and %d rules over %v is not valid", a.States, len(a.Rules), al)
		}
	})
}

// P3.4
func TestDeterministicAndComplete(t *testing.T) {
	forAll(func(al api.Alphabet, a api.Automaton) {
		if got := deterministic(t, al, a); got != sample.Deterministic(a) {
			t.Errorf("%v over %v: Deterministic is %t", sample.Show(a), al, got)
		}
		got, e := auto.Complete(al, a)
		if e != api.OK || got != isComplete(al, a) {
			t.Errorf("%v over %v: Complete is %t, error %d", sample.Show(a), al, got, e)
		}
	})
}

// isComplete searches a rule for each list of states.
func isComplete(al api.Alphabet, a api.Automaton) bool {
	for sym, rank := range al.Ranks {
		for _, from := range sample.Lists(rank, a.States) {
			if !slices.ContainsFunc(a.Rules, func(r api.Rule) bool { return r.Sym == sym && slices.Equal(r.From, from) }) {
				return false
			}
		}
	}
	return true
}

// P3.4: full automata, one rule less, one rule twice, and one rule more.
func TestDeterministicAndCompleteEdges(t *testing.T) {
	check := func(what string, al api.Alphabet, a api.Automaton, det, complete bool) {
		t.Helper()
		got, e := auto.Complete(al, a)
		if e != api.OK || got != complete {
			t.Errorf("%v, %d states, %s: Complete is %t, error %d", al, a.States, what, got, e)
		}
		if got := deterministic(t, al, a); got != det {
			t.Errorf("%v, %d states, %s: Deterministic is %t", al, a.States, what, got)
		}
	}
	for _, al := range sample.Alphabets() {
		for states := range 5 {
			a := full(al, states)
			if slices.ContainsFunc(a.Rules, func(r api.Rule) bool { return r.To >= states }) {
				check("no rules", al, api.Automaton{}, true, false)
				continue
			}
			check("full", al, a, true, true)
			for i, r := range a.Rules {
				fewer := slices.Delete(slices.Clone(a.Rules), i, i+1)
				twice := append(slices.Clone(fewer), a.Rules[(i+1)%len(a.Rules)])
				more := append(slices.Clone(a.Rules), sample.Rule(r.Sym, states-1, r.From...))
				check("fewer", al, api.Automaton{States: states, Rules: fewer}, true, false)
				check("twice", al, api.Automaton{States: states, Rules: twice}, len(a.Rules) == 1, len(a.Rules) == 1)
				check("more", al, api.Automaton{States: states, Rules: more}, false, true)
			}
		}
	}
}

// P3.4: large automata.
func TestDeterministicAndCompleteLarge(t *testing.T) {
	al := api.Alphabet{Ranks: []int{0, 2, 0}}
	a := full(al, 141)
	for range 2 {
		det, e1 := auto.Deterministic(al, a)
		complete, e2 := auto.Complete(al, a)
		whole := len(a.Rules) == 141*141+2
		if !det || complete != whole || e1 != api.OK || e2 != api.OK {
			t.Errorf("%d rules: %t, %t, errors %d, %d", len(a.Rules), det, complete, e1, e2)
		}
		a.Rules = a.Rules[:len(a.Rules)-1]
	}
	al = api.Alphabet{Ranks: slices.Repeat([]int{3}, 12)}
	a = api.Automaton{States: 300, Rules: []api.Rule{sample.Rule(11, 299, 299, 299, 299), sample.Rule(11, 299, 299, 299, 298)}}
	det, e1 := auto.Deterministic(al, a)
	complete, e2 := auto.Complete(al, a)
	if !det || complete || e1 != api.OK || e2 != api.OK {
		t.Errorf("rank 3: %t, %t, errors %d, %d", det, complete, e1, e2)
	}
}

// P3.4, P3.5, P3.7: all refuse arguments that are not valid.
func TestBadArguments(t *testing.T) {
	sample.BadArguments(func(al api.Alphabet, a api.Automaton) {
		b1, e1 := auto.Deterministic(al, a)
		b2, e2 := auto.Complete(al, a)
		l1, e3 := auto.Reachable(al, a)
		l2, e4 := auto.Useful(al, a)
		text, e5 := auto.Print(al, a)
		if b1 || b2 || len(l1) > 0 || len(l2) > 0 || text != "" {
			t.Errorf("%v: results beside errors", al)
		}
		for i, e := range []api.Errno{e1, e2, e3, e4, e5} {
			if e != api.ErrArg {
				t.Errorf("%v, %d states: function %d: error %d", al, a.States, i, e)
			}
		}
		trimmed, e := auto.Trim(al, a)
		checkRefused(t, "Trim", trimmed, e, api.ErrArg)
	})
}

// P3.6
func TestSingle(t *testing.T) {
	for _, al := range sample.Alphabets() {
		trees := sample.Trees(al)
		for i, x := range trees {
			if i%7 != 0 && i > 30 {
				continue
			}
			a, e := auto.Single(al, x)
			if e != api.OK || !auto.Valid(al, a) || !sample.Deterministic(a) {
				t.Fatalf("%v: %v, error %d", x, sample.Show(a), e)
			}
			for j, y := range trees {
				if sample.Accepts(a, y) != (i == j) {
					t.Errorf("Single of %v is wrong for %v", x, y)
				}
			}
		}
	}
}

// P3.6: trees of 300 nodes, and their neighbours.
func TestSingleLarge(t *testing.T) {
	var s sample.Source
	large := []api.Tree{sample.Chain(api.MaxSize, 2, 1), sample.Tree(3, sample.Chain(150, 2, 0), sample.Chain(149, 2, 1))}
	for range 10 {
		large = append(large, sample.RandomTree(&s, small, api.MaxSize))
	}
	for _, x := range large {
		a, e := auto.Single(small, x)
		if e != api.OK || !auto.Valid(small, a) || !deterministic(t, small, a) || !sample.Accepts(a, x) {
			t.Fatalf("a tree of %d nodes: error %d", tree.Size(x), e)
		}
		positions, _ := tree.Positions(small, x)
		for range 20 {
			pos := positions[s.Below(len(positions))]
			part, _ := tree.At(small, x, pos)
			other, e := tree.Put(small, x, pos, sample.RandomTree(&s, small, 1+s.Below(5)))
			if e == api.OK && sample.Accepts(a, other) != (tree.Compare(x, other) == 0) {
				t.Errorf("a tree of %d nodes: another one is accepted", tree.Size(x))
			}
			if sample.Accepts(a, part) != (len(pos) == 0) {
				t.Errorf("a tree of %d nodes: its part at %v is accepted", tree.Size(x), pos)
			}
		}
	}
}

// P3.6: the language has one tree, however large others might be.
func TestSingleIsFinite(t *testing.T) {
	for _, x := range sample.Trees(small) {
		a, e := auto.Single(small, x)
		checkErrno(t, "Single", e, api.OK)
		trimmed, e := auto.Trim(small, a)
		if e != api.OK || !acyclic(trimmed) {
			t.Errorf("Single of %v: %v", x, a)
		}
	}
}

// acyclic reports whether no state of a is below itself.
func acyclic(a api.Automaton) bool {
	below := make([][]bool, a.States)
	for i := range below {
		below[i] = make([]bool, a.States)
	}
	for range a.States {
		for _, r := range a.Rules {
			for _, from := range r.From {
				below[r.To][from] = true
				for i := range below {
					below[r.To][i] = below[r.To][i] || below[from][i]
				}
			}
		}
	}
	for i := range below {
		if below[i][i] {
			return false
		}
	}
	return true
}

// P3.6: arguments that are not valid.
func TestSingleErrors(t *testing.T) {
	for _, al := range sample.BadAlphabets() {
		a, e := auto.Single(al, sample.Tree(0))
		checkRefused(t, "bad alphabet", a, e, api.ErrArg)
	}
	for _, al := range sample.Alphabets() {
		for _, x := range sample.BadTrees(al) {
			a, e := auto.Single(al, x)
			checkRefused(t, "bad tree", a, e, api.ErrArg)
		}
	}
}
